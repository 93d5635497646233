import Derived.Test.YtfblkfjjpnnhhaaDoorI
import Derived.Test.YtfblkfjjpnnhhaaDoorUa
import Derived.BigQuiet
namespace Go.Proofs.YtfblkfjjpnnhhaaDoor
open Go.RowKit Go.Shelf
attribute [local go_sem] Oper.semAt_some
attribute [local go_sem] wide_fn wide_depth wide_round

/-! ## Does a queue stand as the document's? -/
/-- What lies while the bytes are gone over. -/
def IsI (w : World) (A : Option Addr) (n c room many q : Nat) (j : Nat) (W : World) : Prop :=
  Has W w.heap.size 32 #[.slice A n c, .int .i64 (room : Int)] ∧ Has W (w.heap.size + 1) 3 #[.int .i64 (many : Int)] ∧ Has W (w.heap.size + 1 + 1) 4 #[.bool false] ∧ Has W q 3 #[.int .i64 (j : Int)] ∧ Below w.heap.size w W
theorem isI_from {β : Type} (w : World) (A : Option Addr) (n c room many q : Nat) (j : β → Nat) (B : Nat) (hq : q < B) (hB : w.heap.size + 1 + 1 < B) : OwnFrom B (fun s W => IsI w A n c room many q (j s) W) :=
  OwnFrom.and (has_from (by omega) _ (fun _ => #[.slice A n c, .int .i64 (room : Int)])) (OwnFrom.and (has_from (by omega) _ (fun _ => #[.int .i64 (many : Int)])) (OwnFrom.and (has_from hB _ (fun _ => #[.bool false])) (OwnFrom.and (has_from hq _ (fun s => #[.int .i64 (j s : Int)])) (ownFrom_below (Nat.le_refl _) (by omega)))))
def IsX (w : World) (A : Option Addr) (n c room many q : Nat) (cd : Code) (pre : List (Fin n)) (W : World) : Prop :=
  (∃ pre' y, pre = pre' ++ [y] ∧ y.val ≠ pre'.length) ∨ ((cd = .exit 0 ∧ many ≤ pre.length ∧ (pre.length = 1 ∨ pre.length ≤ many)) ∧ IsI w A n c room many q pre.length W)
theorem firsts_place {n k : Nat} (hk : k ≤ n) {pre : List (Fin n)} {y : Fin n} (h : firsts n k = pre ++ [y]) : y.val = pre.length := by
  have hl := congrArg List.length h
  rw [firsts_length hk, List.length_append, List.length_singleton] at hl
  have h2 : (firsts n k)[pre.length]? = some y := by rw [h]; simp
  unfold firsts at h2
  rw [List.getElem?_take, if_pos (by omega), List.getElem?_eq_getElem (by rw [List.length_finRange]; omega), List.getElem_finRange] at h2
  rw [← Option.some.inj h2]
  rfl
set_option maxRecDepth 100000 in
set_option maxHeartbeats 2000000 in
theorem is_any (g r room : Nat) (l : List UInt8) (A : Option Addr) (c : Nat) (S : Nat → Prop) (many : Nat) (w : World) (h : Qu w g r room l) (hp : Fine w S ⟨A, l, c⟩) (hS : ∀ k, S k → k < w.heap.size) (hm : many ≤ 99999) :
    Calls Tryd.prog 12 #[.pointer (some ⟨g, 0, none⟩), refVal ⟨A, l, c⟩ room, .int .i64 (many : Int)] w fun e w' => e = .returned (.bool true) ∧ Below w.heap.size w w' := by
  refine (callsIn_wide (n := 3)).1 ?_
  refine callsIn_of_wp_marks Tryd.func12 rfl trivial ?_ rfl
  refine wpIn_wide.2 ?_
  simp only [Tryd.ntmps12, List.size_toArray, List.length_cons, List.length_nil, Nat.reduceAdd, Nat.reduceSub, Array.replicate_succ, Array.replicate_zero, List.push_toArray, List.append_toArray, List.nil_append, List.cons_append]
  have hnil : ∀ (fn : Fn) (f c : Array Value) (w : World), Sem.run Tryd.prog (binOp BinOp.eql 52 (Value.func fn f c) Value.nilFunc) w = .ok (.bool false) w := fun _ _ _ _ => by kernel_rfl
  have hsm := h.small
  have h' := Lib.hid h
  have hp' := Lib.hid hp
  have hg := h.lt
  clear h hp
  unfold refVal
  simp only
  go_wp2_with fail
  have k0 := ((Has.new w 32 #[.slice A l.length c, .int .i64 (room : Int)]).alloc (.cells #[.int .i64 (many : Int)] 3)).alloc (.cells #[.bool false] 4)
  have k1 := (Has.new (w.alloc (.cells #[.slice A l.length c, .int .i64 (room : Int)] 32)) 3 #[.int .i64 (many : Int)]).alloc (.cells #[.bool false] 4)
  have k2 := Has.new ((w.alloc (.cells #[.slice A l.length c, .int .i64 (room : Int)] 32)).alloc (.cells #[.int .i64 (many : Int)] 3)) 4 #[.bool false]
  have hB := (((Below.refl w.heap.size w).alloc (Nat.le_refl _) (.cells #[.slice A l.length c, .int .i64 (room : Int)] 32)).alloc (by simp) (.cells #[.int .i64 (many : Int)] 3)).alloc (by simp; omega) (.cells #[.bool false] 4)
  have hz : (((w.alloc (.cells #[.slice A l.length c, .int .i64 (room : Int)] 32)).alloc (.cells #[.int .i64 (many : Int)] 3)).alloc (.cells #[.bool false] 4)).heap.size = w.heap.size + 3 := by simp
  simp only [World.size_alloc] at k1 k2
  generalize (((w.alloc (.cells #[.slice A l.length c, .int .i64 (room : Int)] 32)).alloc (.cells #[.int .i64 (many : Int)] 3)).alloc (.cells #[.bool false] 4)) = w1 at k0 k1 k2 hB hz ⊢
  refine (all_any g r room l w1 (h'.out.below hB)).mono ?_
  rintro e w2 ⟨k, r2, rfl, hsq, hk, hr2, hrl, hB2⟩
  have hQ2 : Hid (Qu w2 g r room l) := (h'.out.below hB).below hB2
  have m0 := Lib.hid (k0.below hB2 k0.lt)
  have m1 := Lib.hid (k1.below hB2 k1.lt)
  have m2 := Lib.hid (k2.below hB2 k2.lt)
  have hB3 := Lib.hid (hB.trans (hB2.mono hB.size))
  have hsq' := Lib.hid hsq
  have hz2 : Hid (w.heap.size + 3 ≤ k ∧ w.heap.size + 3 ≤ r2 ∧ r2 < w2.heap.size ∧ w.heap.size + 3 ≤ w2.heap.size) := ⟨by omega, by omega, by omega, by have := hB2.size; omega⟩
  clear k0 k1 k2 hB hB2 hsq hk hr2 hrl hz
  have c0 : w2.cell? ⟨w.heap.size, 0, none⟩ = some (.slice A l.length c) := m0.out.cell 0
  have c1 : w2.cell? ⟨w.heap.size, 1, none⟩ = some (.int .i64 (room : Int)) := m0.out.cell 1
  have g1 : (((l.length : Nat) : Int) != ((l.length : Nat) : Int)) = false := by simp
  have hw : IntKind.i64.wrap ((room : Int) - (l.length : Int)) = (room : Int) - (l.length : Int) := by rw [IntKind.wrap_i64]; omega
  have g2 : ((((room - l.length : Nat) : Int)) != ((room : Int) - (l.length : Int))) = false := by rw [bne_eq_false_iff_eq]; omega
  have hlen : Hid (∀ q, Calls Tryd.prog 20 #[.pointer (some ⟨g, 0, none⟩)] (w2.drewN q) fun e w' => e = .returned (.int .i64 (l.length : Int)) ∧ w' = w2.drewN q) := by
    intro q
    refine (len_any g r room l (w2.drewN q) (hQ2.out.kept rfl rfl)).mono ?_
    rintro e w' ⟨h, h'⟩
    exact ⟨h, h'.symm⟩
  have hroom : Hid (∀ q, Calls Tryd.prog 21 #[.pointer (some ⟨g, 0, none⟩)] (w2.drewN q) fun e w' => e = .returned (.int .i64 ((room - l.length : Nat) : Int)) ∧ ∃ m, w' = (w2.drewN q).drewN m) := fun q => room_any g r room l _ (hQ2.out.kept rfl rfl)
  go_wp2_with fail
  go_quiet (first | (go_at_call 20; exact Calls.quiet_of_same (hlen.out _)) | (go_at_call 21; exact Calls.quiet_of (hroom.out _)))
  have b0 : Has (w2.drewN nq) w.heap.size _ _ := m0.out
  have b1 : Has (w2.drewN nq) (w.heap.size + 1) _ _ := m1.out
  have b2 : Has (w2.drewN nq) (w.heap.size + 1 + 1) _ _ := m2.out
  have hB4 : Below w.heap.size w (w2.drewN nq) := below_draws hB3.out nq
  have hsq2 : SeqB (w2.drewN nq) k r2 l := hsq'.out.kept rfl rfl
  have hz4 : Hid (w.heap.size + 3 ≤ k ∧ w.heap.size + 3 ≤ r2 ∧ k < (w2.drewN nq).heap.size ∧ r2 < (w2.drewN nq).heap.size ∧ w.heap.size + 3 ≤ (w2.drewN nq).heap.size) := ⟨hz2.out.1, hz2.out.2.1, hsq2.lt, hz2.out.2.2⟩
  clear hlen hroom hQ2 m0 m1 m2 hB3 hsq' hz2 c0 c1
  generalize w2.drewN nq = w4 at b0 b1 b2 hB4 hsq2 hz4 ⊢
  go_wp2_with fail
  have d0 := b0.alloc (.cells #[.int .i64 0] 3)
  have d1 := b1.alloc (.cells #[.int .i64 0] 3)
  have d2 := b2.alloc (.cells #[.int .i64 0] 3)
  have d3 := Has.new w4 3 #[.int .i64 0]
  have hB5 := hB4.alloc (by have := hz4.out; omega) (.cells #[.int .i64 0] 3)
  have hsq3 := hsq2.below ((Below.refl w4.heap.size w4).alloc (Nat.le_refl _) (.cells #[.int .i64 0] 3))
  have hz5 : (w4.alloc (.cells #[.int .i64 0] 3)).heap.size = w4.heap.size + 1 := by simp
  have hI0 := Lib.hid (show IsI w A l.length c room many w4.heap.size 0 _ from ⟨d0, d1, d2, d3, hB5⟩)
  have hp2 := Lib.hid hp'.out.1
  generalize w4.alloc (.cells #[.int .i64 0] 3) = w5 at hsq3 hz5 hI0 ⊢
  have hz6 : Hid (w.heap.size + 3 ≤ k ∧ w.heap.size + 3 ≤ r2 ∧ k < w4.heap.size ∧ r2 < w4.heap.size ∧ w.heap.size + 3 ≤ w4.heap.size ∧ w5.heap.size = w4.heap.size + 1) := by have := hz4.out; exact ⟨this.1, this.2.1, this.2.2.1, this.2.2.2.1, this.2.2.2.2, hz5⟩
  clear b0 b1 b2 hB4 hsq2 hz4 d0 d1 d2 d3 hB5 hz5 hp' h'
  refine (wpIn_wide (n := 3)).1 ?_
  refine wpIn_range_meets 0 rfl (by omega) (gf := 35) (lb := #[.pointer (some ⟨k, 0, none⟩)]) rfl trivial (enters_of Tryd.func35 (by kernel_rfl) rfl)
    (each_stops 2 (by omega) l k r2 w5 hsq3) Kept.trans (kept_b (fun b e => by have := hz6.out; omega)) (Below.refl _ _) (fun _ => rfl)
    (fun pre W => (pre.length = 0 ∨ pre.length < many) ∧ IsI w A l.length c room many w4.heap.size pre.length W) (IsX w A l.length c room many w4.heap.size)
    (IsI w A l.length c room many w4.heap.size (min l.length (max 1 many)))
    (fun s X Y row hs hg hr => ⟨hs.1, isI_from (β := List (Fin l.length)) w A l.length c room many w4.heap.size (fun s => s.length) _ (by have := hz6.out; omega) (by have := hz6.out; omega) s X Y row hs.2 hg hr⟩)
    (fun cd s X Y row hs hg hr => hs.imp (fun h => h) (fun h => ⟨h.1, isI_from (β := List (Fin l.length)) w A l.length c room many w4.heap.size (fun s => s.length) _ (by have := hz6.out; omega) (by have := hz6.out; omega) s X Y row h.2 hg hr⟩))
    ⟨.inl rfl, hI0.out⟩
    (fun xs W hx ⟨h1, h2⟩ => by rw [hx, firsts_length (Nat.le_refl _)] at h1 h2; rw [show min l.length (max 1 many) = l.length by omega]; exact h2)
    (fun cd pre W ⟨k, hk, hpre⟩ hx => by
      rcases hx with ⟨pre', y, h1, h2⟩ | ⟨⟨h1, h2, h3⟩, h4⟩
      · exact absurd (firsts_place (by omega) (hpre ▸ h1)) h2
      · have hl : pre.length = k + 1 := by rw [hpre]; exact firsts_length (by omega)
        refine ⟨h1, ?_⟩
        rw [show min l.length (max 1 many) = pre.length by omega]
        exact h4)
    ?a1 ?assign ?body (fun _ _ h => h) ?rest
  case assign =>
    intro l0 y W K hK
    have hK' := Lib.hid hK
    clear hK
    dsimp only [encAt]
    gi_wp2
    exact hK'.out
  case body =>
    rintro l0 pre ⟨j, hj⟩ W ⟨hcond, m0, m1, m2, m3, hB⟩ hlen
    have hcond' := Lib.hid hcond
    clear hcond
    have c0 : W.cell? ⟨w.heap.size, 0, none⟩ = some (.slice A l.length c) := m0.cell 0
    have c1 : W.cell? ⟨w.heap.size + 1, 0, none⟩ = some (.int .i64 (many : Int)) := m1.cell 0
    have c2 : W.cell? ⟨w.heap.size + 1 + 1, 0, none⟩ = some (.bool false) := m2.cell 0
    have f2 : W.frozen? ⟨w.heap.size + 1 + 1, 0, none⟩ = false := m2.free 0
    have c3 : W.cell? ⟨w4.heap.size, 0, none⟩ = some (.int .i64 (pre.length : Int)) := m3.cell 0
    have f3 : W.frozen? ⟨w4.heap.size, 0, none⟩ = false := m3.free 0
    by_cases hy : j = pre.length
    · subst hy
      have h0 : 0 < l.length := by omega
      obtain ⟨ad, rfl, hSa, hca⟩ := hp2.out h0
      have hby : W.cell? (ad.add pre.length) = some (.int .u8 ((l[pre.length]'hj).toNat : Int)) := (hB.cell (p := ad.add pre.length) (by rw [add_block_]; exact hS _ hSa)).trans (hca _ _ (byts_at hj))
      have m0' := Lib.hid m0
      have m1' := Lib.hid m1
      have m2' := Lib.hid m2
      have m3' := Lib.hid m3
      have hB' := Lib.hid hB
      clear m0 m1 m2 m3 hB hSa hca
      have hlt : (pre.length : Int) < (l.length : Int) := by omega
      have h1 : (0 : Int) ≤ (pre.length : Int) := by omega
      have hgt : decide ((l.length : Int) ≤ (pre.length : Int)) = false := by rw [decide_eq_false_iff_not]; omega
      have hwr : IntKind.i64.wrap ((pre.length : Int) + 1) = (pre.length : Int) + 1 := by rw [IntKind.wrap_i64]; omega
      generalize hb : (l[pre.length]'hj).toNat = bv at hby ⊢
      have hne1 : w.heap.size + 1 ≠ w4.heap.size := by have := hz6.out; omega
      have hne0 : w.heap.size ≠ w4.heap.size := by have := hz6.out; omega
      have hne2 : w.heap.size + 1 + 1 ≠ w4.heap.size := by have := hz6.out; omega
      have hpl : (pre ++ [(⟨pre.length, hj⟩ : Fin l.length)]).length = pre.length + 1 := by simp
      by_cases hmn : many ≤ pre.length + 1
      · have hge : decide ((many : Int) ≤ (pre.length : Int) + 1) = true := by rw [decide_eq_true_iff]; omega
        gi_wp2
        refine ⟨(KeepsOthers.setCell _ _ _).from _, .inr ⟨⟨rfl, by rw [hpl]; exact hmn, by rw [hpl]; rcases hcond'.out with h | h <;> omega⟩, ?_⟩⟩
        rw [hpl]
        exact ⟨m0'.out.other hne0 _, m1'.out.other hne1 _, m2'.out.other hne2 _, m3'.out.put 0 _, hB'.out.setCell (by have := hz6.out; simp; omega) _⟩
      · have hge : decide ((many : Int) ≤ (pre.length : Int) + 1) = false := by rw [decide_eq_false_iff_not]; omega
        gi_wp2
        refine ⟨(KeepsOthers.setCell _ _ _).from _, (Kept.refl _ _).setCell (by have := hz6.out; simp; omega) _, .inr (by rw [hpl]; omega), ?_⟩
        rw [hpl]
        exact ⟨m0'.out.other hne0 _, m1'.out.other hne1 _, m2'.out.other hne2 _, m3'.out.put 0 _, hB'.out.setCell (by have := hz6.out; simp; omega) _⟩
    · have hq : (((j : Nat) : Int) != ((pre.length : Nat) : Int)) = true := by rw [bne_iff_ne]; omega
      gi_wp2
      exact ⟨(KeepsOthers.setCell _ _ _).from _, .inl ⟨pre, ⟨j, hj⟩, rfl, hy⟩⟩
  case rest =>
    rintro D W hD hM hDn
    have hM' := Lib.hid hM
    have hDn' := Lib.hid hDn
    obtain ⟨m0, m1, m2, m3, hB⟩ := hM
    have c0 : W.cell? ⟨w.heap.size, 0, none⟩ = some (.slice A l.length c) := m0.cell 0
    have c1 : W.cell? ⟨w.heap.size + 1, 0, none⟩ = some (.int .i64 (many : Int)) := m1.cell 0
    have c3 : W.cell? ⟨w4.heap.size, 0, none⟩ = some (.int .i64 ((min l.length (max 1 many) : Nat) : Int)) := m3.cell 0
    have c2 : W.cell? ⟨w.heap.size + 1 + 1, 0, none⟩ = some (.bool false) := m2.cell 0
    have f2 : W.frozen? ⟨w.heap.size + 1 + 1, 0, none⟩ = false := m2.free 0
    clear m0 m1 m2 m3 hB
    have hbt : ∀ Y : Int, Y = ((min l.length (max 1 many) : Nat) : Int) → (((min l.length (max 1 many) : Nat) : Int) == Y) = true := fun Y h => by rw [beq_iff_eq]; exact h.symm
    go_wp2
    all_goals
      rw [hbt _ (by omega)]
      have m2 := hM'.out.2.2.1
      have x2 := m2.put 0 (.bool true)
      have hdk := hDn'.out.set (i := 0) m2 (.bool true)
      refine ⟨by simp, .inl ⟨_, _, rfl, run_takeDeferred hdk, ?_⟩⟩
      have g13 := (x2.put_obj (.deferred none) (l := D) (by have := hz6.out; omega)).cell 0
      exact ⟨.bool true, by simp [results, Tryd.results12, go_sem, g13], rfl, (hM'.out.2.2.2.2.setCell (by simp; omega) _).trans (belowK_b (w := w) (Nat.le_refl _) _ D _ _ (by have := hz6.out; omega) hdk rfl rfl)⟩
end Go.Proofs.YtfblkfjjpnnhhaaDoor
