import Derived.Test.YtajdlkohnafbeaaM
import Derived.Test.YtajdlkohnafbeaaG
import Derived.Deep.RegionHeld3
import Derived.BigQuiet
import Derived.Laws.EntriesVeiled
import Derived.BigRegionIn
import Derived.Shelf.Abstract
namespace Go.Proofs.Ytajdlkohnafbeaa
open Go.RowKit Go.Shelf
attribute [local go_sem] Oper.semAt_some
attribute [local go_sem] wide_fn wide_depth wide_round

/-! ## Does a ring stand as the document's? -/
theorem from_same (first : Nat) (l : List Int) (i : Nat) : (fromAt first l i).2 = l.drop (min (i - first) l.length) ∧ (0 < (l.drop (min (i - first) l.length)).length → (fromAt first l i).1 = first + min (i - first) l.length) := by
  unfold fromAt
  by_cases h : i ≤ first
  · rw [if_pos h, show i - first = 0 by omega, Nat.zero_min]
    exact ⟨rfl, fun _ => rfl⟩
  · rw [if_neg h]
    by_cases h2 : i < first + l.length
    · rw [if_pos h2, Nat.min_eq_left (by omega)]
      exact ⟨rfl, fun _ => by simp only; omega⟩
    · rw [if_neg h2, Nat.min_eq_right (by omega), List.drop_length]
      exact ⟨rfl, fun h => absurd h (by simp)⟩
/-- What lies while the values are gone over. -/
def IsI (w : World) (B : Option Addr) (n d many s kb kl q : Nat) (j : Nat) (W : World) : Prop :=
  Has W (w.heap.size + 1) 3 #[.int .i64 (many : Int)] ∧ Has W (w.heap.size + 1 + 1) 4 #[.bool false] ∧ Has W kb 22 #[.int .u64 (s : Int)] ∧ Has W kl 29 #[.slice B n d] ∧ Has W q 3 #[.int .i64 (j : Int)] ∧ Below w.heap.size w W
theorem isI_from {β : Type} (w : World) (A : Option Addr) (n d many s kb kl q : Nat) (j : β → Nat) (B : Nat) (hkb : kb < B) (hkl : kl < B) (hq : q < B) (hB : w.heap.size + 1 + 1 < B) : OwnFrom B (fun x W => IsI w A n d many s kb kl q (j x) W) :=
  OwnFrom.and (has_from (by omega) _ (fun _ => #[.int .i64 (many : Int)])) (OwnFrom.and (has_from hB _ (fun _ => #[.bool false])) (OwnFrom.and (has_from hkb _ (fun _ => #[.int .u64 (s : Int)])) (OwnFrom.and (has_from hkl _ (fun _ => #[.slice A n d])) (OwnFrom.and (has_from hq _ (fun x => #[.int .i64 (j x : Int)])) (ownFrom_below (Nat.le_refl _) (by omega))))))
def IsX (w : World) (B : Option Addr) (n d many s kb kl q : Nat) (cd : Code) (pre : List (Fin n)) (W : World) : Prop :=
  (∃ pre' y, pre = pre' ++ [y] ∧ y.val ≠ pre'.length) ∨ ((cd = .exit 0 ∧ many ≤ pre.length ∧ (pre.length = 1 ∨ pre.length ≤ many)) ∧ IsI w B n d many s kb kl q pre.length W)
theorem firsts_place {n k : Nat} (hk : k ≤ n) {pre : List (Fin n)} {y : Fin n} (h : firsts n k = pre ++ [y]) : y.val = pre.length := by
  have hl := congrArg List.length h
  rw [firsts_length hk, List.length_append, List.length_singleton] at hl
  have h2 : (firsts n k)[pre.length]? = some y := by rw [h]; simp
  unfold firsts at h2
  rw [List.getElem?_take, if_pos (by omega), List.getElem?_eq_getElem (by rw [List.length_finRange]; omega), List.getElem_finRange] at h2
  rw [← Option.some.inj h2]
  rfl
set_option maxRecDepth 100000 in
set_option maxHeartbeats 4000000 in
theorem is_any (g r most first : Nat) (l : List Int) (n : Nat) (A : Option Addr) (c i many : Nat) (S : Nat → Prop) (w : World) (h : Rg w g r most first l) (hn : l.length = n) (hp : Fine w S A l c) (hS : ∀ k, S k → k < w.heap.size) (hi : i ≤ 18446744073709551615) (hm : many ≤ 9999) :
    Calls Try.prog 12 #[.pointer (some ⟨g, 0, none⟩), rv A n c first most, .int .u64 (i : Int), .int .i64 (many : Int)] w fun e w' => e = .returned (.bool true) ∧ Below w.heap.size w w' := by
  refine (callsIn_wide (n := 3)).1 ?_
  refine callsIn_of_wp_marks Try.func12 rfl trivial ?_ rfl
  refine wpIn_wide.2 ?_
  simp only [Try.ntmps12, List.size_toArray, List.length_cons, List.length_nil, Nat.reduceAdd, Nat.reduceSub, Array.replicate_succ, Array.replicate_zero, List.push_toArray, List.append_toArray, List.nil_append, List.cons_append]
  have hnil : ∀ (fn : Fn) (f c : Array Value) (w : World), Sem.run Try.prog (binOp BinOp.eql 58 (Value.func fn f c) Value.nilFunc) w = .ok (.bool false) w := fun _ _ _ _ => by kernel_rfl
  have hnum := h.num
  have hn4 : n ≤ 4096 := by omega
  have hN2 : first + n ≤ 18446744073709551615 := by omega
  have h' := Lib.hid h
  have hp' := Lib.hid hp
  have hg := h.lt.1
  have hn' := Lib.hid hn
  have hi' := Lib.hid hi
  have hS' := Lib.hid hS
  clear h hp hnum hn hi hS
  unfold rv
  go_wp2_with fail
  have k0 := ((Has.new w 31 #[.slice A n c, .int .u64 (first : Int), .int .i64 (most : Int)]).alloc (.cells #[.int .i64 (many : Int)] 3)).alloc (.cells #[.bool false] 4)
  have k1 := (Has.new (w.alloc (.cells #[.slice A n c, .int .u64 (first : Int), .int .i64 (most : Int)] 31)) 3 #[.int .i64 (many : Int)]).alloc (.cells #[.bool false] 4)
  have k2 := Has.new ((w.alloc (.cells #[.slice A n c, .int .u64 (first : Int), .int .i64 (most : Int)] 31)).alloc (.cells #[.int .i64 (many : Int)] 3)) 4 #[.bool false]
  have hB := (((Below.refl w.heap.size w).alloc (Nat.le_refl _) (.cells #[.slice A n c, .int .u64 (first : Int), .int .i64 (most : Int)] 31)).alloc (by simp) (.cells #[.int .i64 (many : Int)] 3)).alloc (by simp; omega) (.cells #[.bool false] 4)
  have hz : (((w.alloc (.cells #[.slice A n c, .int .u64 (first : Int), .int .i64 (most : Int)] 31)).alloc (.cells #[.int .i64 (many : Int)] 3)).alloc (.cells #[.bool false] 4)).heap.size = w.heap.size + 3 := by simp
  simp only [World.size_alloc] at k1 k2
  generalize (((w.alloc (.cells #[.slice A n c, .int .u64 (first : Int), .int .i64 (most : Int)] 31)).alloc (.cells #[.int .i64 (many : Int)] 3)).alloc (.cells #[.bool false] 4)) = w1 at k0 k1 k2 hB hz ⊢
  refine (get_any g r most first i l w1 (h'.out.below hB) hi'.out).mono ?_
  rintro e w2 ⟨rfl, p1, rfl⟩
  have m0 : Hid (Has (w1.drewN p1) w.heap.size 31 #[.slice A n c, .int .u64 (first : Int), .int .i64 (most : Int)]) := k0
  have m1 : Hid (Has (w1.drewN p1) (w.heap.size + 1) 3 #[.int .i64 (many : Int)]) := k1
  have m2 : Hid (Has (w1.drewN p1) (w.heap.size + 1 + 1) 4 #[.bool false]) := k2
  have hB2 : Hid (Below w.heap.size w (w1.drewN p1)) := below_draws hB p1
  have hz2 : Hid ((w1.drewN p1).heap.size = w.heap.size + 3) := hz
  clear k0 k1 k2 hB hz
  generalize w1.drewN p1 = w2 at m0 m1 m2 hB2 hz2 ⊢
  have e0 : w2.cell? ⟨w.heap.size, 0, none⟩ = some (.slice A n c) := m0.out.cell 0
  have e1 : w2.cell? ⟨w.heap.size, 1, none⟩ = some (.int .u64 (first : Int)) := m0.out.cell 1
  have e2 : w2.cell? ⟨w.heap.size, 2, none⟩ = some (.int .i64 (most : Int)) := m0.out.cell 2
  generalize hgp : got first l i = gp
  obtain ⟨gv, gb⟩ := gp
  have hgp' := Lib.hid hgp
  clear hgp
  go_wp2_with fail
  have href := refGet_any A l n c first most i S w2 (hp'.out.kept (Kept.below hB2.out hS'.out)) (fun k hk => Nat.lt_of_lt_of_le (hS'.out k hk) hB2.out.size) hn'.out hn4 hi'.out
  rw [hgp'.out] at href
  unfold rv at href
  refine href.mono ?_
  clear href e0 e1 e2
  rintro e w3 ⟨rfl, hB3⟩
  have m03 := Lib.hid (m0.out.below hB3 m0.out.lt)
  have m13 := Lib.hid (m1.out.below hB3 m1.out.lt)
  have m23 := Lib.hid (m2.out.below hB3 m2.out.lt)
  have hB4 := Lib.hid (hB2.out.trans (hB3.mono hB2.out.size))
  have hz3 : Hid (w.heap.size + 3 ≤ w3.heap.size) := by have := hz2.out; have := hB3.size; show _ ≤ _; omega
  clear m0 m1 m2 hB2 hz2 hB3
  go_wp2_with fail
  obtain ⟨hzs, hs0⟩ := from_same first l i
  obtain ⟨zs, hzd⟩ : ∃ zs, l.drop (min (i - first) l.length) = zs := ⟨_, rfl⟩
  obtain ⟨s, hsd⟩ : ∃ s, first + min (i - first) l.length = s := ⟨_, rfl⟩
  rw [hzd] at hzs hs0
  rw [hsd] at hs0
  refine (from_any g r most first i _ s l zs w3 (h'.out.below hB4.out) rfl hsd hzd).mono ?_
  rintro e w4 ⟨k, b1, b2, rfl, hsq, hk, hx1, hx2, hB5⟩
  have m04 := Lib.hid (m03.out.below hB5 m03.out.lt)
  have m14 := Lib.hid (m13.out.below hB5 m13.out.lt)
  have m24 := Lib.hid (m23.out.below hB5 m23.out.lt)
  have hB6 := Lib.hid (hB4.out.trans (hB5.mono hB4.out.size))
  have hsq' := Lib.hid hsq
  have hz4 : Hid (w.heap.size + 3 ≤ k ∧ w.heap.size + 3 ≤ b1 ∧ w.heap.size + 3 ≤ b2 ∧ b1 < w4.heap.size ∧ b2 < w4.heap.size) := by have := hz3.out; exact ⟨by omega, by omega, by omega, hx1.2, hx2.2⟩
  have hzs' := Lib.hid hzs
  have hs0' := Lib.hid hs0
  have hgg : (gv != gv) = false := by simp
  have hgb : (gb != gb) = false := by simp
  have hff : ((first : Int) != (first : Int)) = false := by simp
  obtain ⟨N, hN⟩ : ∃ N, first + n = N := ⟨_, rfl⟩
  have hNN : ((N : Int) != (N : Int)) = false := by simp
  have hnn : ((l.length : Int) != (n : Int)) = false := by rw [hn'.out]; simp
  have hR4 : Hid (Rg w4.drew g r most first l) := (h'.out.below hB6.out).kept rfl rfl
  have e0 : w4.drew.cell? ⟨w.heap.size, 0, none⟩ = some (.slice A n c) := m04.out.cell 0
  have e1 : w4.drew.cell? ⟨w.heap.size, 1, none⟩ = some (.int .u64 (first : Int)) := m04.out.cell 1
  have e2 : w4.drew.cell? ⟨w.heap.size, 2, none⟩ = some (.int .i64 (most : Int)) := m04.out.cell 2
  have cF := Lib.hid (first_any g r most first l w4.drew hR4.out)
  have cN := Lib.hid (next_any g r most first N l w4.drew hR4.out (by rw [hn'.out]; exact hN))
  have cR := refNext_any A n c first most N w4.drew hN (by omega)
  unfold rv at cR
  have cR' := Lib.hid cR
  clear cR hN hzs hs0 hzd hsd hsq hk hx1 hx2 m03 m13 m23 hB4 hz3
  go_upto_region 4 with (fail)
  go_region_held3 (fun w' => w'.cell? ⟨w.heap.size, 0, none⟩ = some (.slice A n c) ∧ w'.cell? ⟨w.heap.size, 1, none⟩ = some (.int .u64 (first : Int)) ∧ w'.cell? ⟨w.heap.size, 2, none⟩ = some (.int .i64 (most : Int)))
    (first | exact ⟨e0, e1, e2⟩ | exact hS3 | exact hS4)
    (first | (go_at_call 21; refine cF.out.mono ?_; rintro e w' ⟨rfl, rfl⟩)
           | (go_at_call 22; refine cN.out.mono ?_; rintro e w' ⟨rfl, rfl⟩)
           | (go_at_call 28; refine cR'.out.mono ?_; rintro e w5 ⟨rfl, hB7⟩
              have m05 : Hid (Has w5 w.heap.size 31 #[.slice A n c, .int .u64 (first : Int), .int .i64 (most : Int)]) := (show Has w4.drew w.heap.size _ _ from m04.out).below hB7 m04.out.lt
              have m15 : Hid (Has w5 (w.heap.size + 1) 3 #[.int .i64 (many : Int)]) := (show Has w4.drew (w.heap.size + 1) _ _ from m14.out).below hB7 m14.out.lt
              have m25 : Hid (Has w5 (w.heap.size + 1 + 1) 4 #[.bool false]) := (show Has w4.drew (w.heap.size + 1 + 1) _ _ from m24.out).below hB7 m24.out.lt
              have hB8 : Hid (Below w.heap.size w w5) := (show Below w.heap.size w w4.drew from hB6.out.drew).trans (hB7.mono (show w.heap.size ≤ w4.drew.heap.size from hB6.out.size))
              have hsq5 : Hid (SeqR w5 k b1 b2 s zs) := (show SeqR w4.drew k b1 b2 s zs from hsq'.out).below hB7
              have hz5 : Hid (w.heap.size + 3 ≤ k ∧ w.heap.size + 3 ≤ b1 ∧ w.heap.size + 3 ≤ b2 ∧ b1 < w5.heap.size ∧ b2 < w5.heap.size) := by
                have h1 := hz4.out
                have h2 : w4.heap.size ≤ w5.heap.size := hB7.size
                exact ⟨h1.1, h1.2.1, h1.2.2.1, by omega, by omega⟩
              have hS3 : w5.cell? ⟨w.heap.size, 0, none⟩ = some (.slice A n c) ∧ w5.cell? ⟨w.heap.size, 1, none⟩ = some (.int .u64 (first : Int)) ∧ w5.cell? ⟨w.heap.size, 2, none⟩ = some (.int .i64 (most : Int)) := ⟨m05.out.cell 0, m05.out.cell 1, m05.out.cell 2⟩
              clear hB7)
           | (go_at_call 23; refine (len_any g r most first l w5 (h'.out.below hB8.out)).mono ?_; rintro e w' ⟨rfl, p2, rfl⟩
              have hS4 : (w5.drewN p2).cell? ⟨w.heap.size, 0, none⟩ = some (.slice A n c) ∧ (w5.drewN p2).cell? ⟨w.heap.size, 1, none⟩ = some (.int .u64 (first : Int)) ∧ (w5.drewN p2).cell? ⟨w.heap.size, 2, none⟩ = some (.int .i64 (most : Int)) := hS3)
           | fail)
  have m06 : Hid (Has (w5.drewN p2) w.heap.size 31 #[.slice A n c, .int .u64 (first : Int), .int .i64 (most : Int)]) := m05.out
  have m16 : Hid (Has (w5.drewN p2) (w.heap.size + 1) 3 #[.int .i64 (many : Int)]) := m15.out
  have m26 : Hid (Has (w5.drewN p2) (w.heap.size + 1 + 1) 4 #[.bool false]) := m25.out
  have hB9 : Hid (Below w.heap.size w (w5.drewN p2)) := below_draws hB8.out p2
  have hsq6 : Hid (SeqR (w5.drewN p2) k b1 b2 s zs) := hsq5.out
  have hz6 : Hid (w.heap.size + 3 ≤ k ∧ w.heap.size + 3 ≤ b1 ∧ w.heap.size + 3 ≤ b2 ∧ b1 < (w5.drewN p2).heap.size ∧ b2 < (w5.drewN p2).heap.size) := hz5.out
  clear m05 m15 m25 hB8 hsq5 hz5 hS3 hS4 m04 m14 m24 hB6 hsq' hz4 cF cN cR' hR4 e0 e1 e2
  generalize w5.drewN p2 = w6 at m06 m16 m26 hB9 hsq6 hz6 ⊢
  have e0 : w6.cell? ⟨w.heap.size, 0, none⟩ = some (.slice A n c) := m06.out.cell 0
  have e1 : w6.cell? ⟨w.heap.size, 1, none⟩ = some (.int .u64 (first : Int)) := m06.out.cell 1
  have e2 : w6.cell? ⟨w.heap.size, 2, none⟩ = some (.int .i64 (most : Int)) := m06.out.cell 2
  go_wp2_with fail
  have href := refFrom_any A l n c first most i S w6 (hp'.out.kept (Kept.below hB9.out hS'.out)) (fun k hk => Nat.lt_of_lt_of_le (hS'.out k hk) hB9.out.size) hn'.out hn4 hi'.out
  unfold rv at href
  refine href.mono ?_
  clear href e0 e1 e2
  rintro e w7 ⟨B, d, rfl, hpb, hB10⟩
  rw [hzs'.out] at hpb ⊢
  have m17 := Lib.hid (m16.out.below hB10 m16.out.lt)
  have m27 := Lib.hid (m26.out.below hB10 m26.out.lt)
  have hsq7 := Lib.hid (hsq6.out.below hB10)
  have hB11 := Lib.hid (hB9.out.trans (hB10.mono hB9.out.size))
  have hpb' := Lib.hid hpb
  have hz7 : Hid (w.heap.size + 3 ≤ k ∧ w.heap.size + 3 ≤ b1 ∧ w.heap.size + 3 ≤ b2 ∧ b1 < w7.heap.size ∧ b2 < w7.heap.size) := by
    have h1 := hz6.out
    have h2 : w6.heap.size ≤ w7.heap.size := hB10.size
    exact ⟨h1.1, h1.2.1, h1.2.2.1, by omega, by omega⟩
  generalize hsv : (fromAt first l i).1 = sv
  rw [hsv] at hs0'
  obtain ⟨hzl, hsl, hkl⟩ : zs.length ≤ 4096 ∧ s + zs.length ≤ 18446744073709551615 ∧ k + 1 < w7.heap.size := by
    obtain ⟨_, _, _, _, _, h2, _, h4, h5⟩ := hsq7.out
    exact ⟨h4, h5, h2.lt⟩
  have hpw : Hid (Fine w S B zs d) := hpb'.out.kept (fun k hk => (hB11.out.block k (hS'.out k hk)).symm)
  clear m06 m16 m26 hB9 hsq6 hz6 hpb hB10 hp' h' hsv hzs' hpb'
  go_wp2_with fail
  have d1 := ((m17.out.alloc (.cells #[.int .u64 (sv : Int)] 22)).alloc (.cells #[.slice B zs.length d] 29)).alloc (.cells #[.int .i64 0] 3)
  have d2 := ((m27.out.alloc (.cells #[.int .u64 (sv : Int)] 22)).alloc (.cells #[.slice B zs.length d] 29)).alloc (.cells #[.int .i64 0] 3)
  have d3 := ((Has.new w7 22 #[.int .u64 (sv : Int)]).alloc (.cells #[.slice B zs.length d] 29)).alloc (.cells #[.int .i64 0] 3)
  have d4 := (Has.new (w7.alloc (.cells #[.int .u64 (sv : Int)] 22)) 29 #[.slice B zs.length d]).alloc (.cells #[.int .i64 0] 3)
  have d5 := Has.new ((w7.alloc (.cells #[.int .u64 (sv : Int)] 22)).alloc (.cells #[.slice B zs.length d] 29)) 3 #[.int .i64 0]
  have hB12 := ((hB11.out.alloc hB11.out.size (.cells #[.int .u64 (sv : Int)] 22)).alloc (by simp; have := hB11.out.size; omega) (.cells #[.slice B zs.length d] 29)).alloc (by simp; have := hB11.out.size; omega) (.cells #[.int .i64 0] 3)
  have hsq8 := hsq7.out.below ((((Below.refl w7.heap.size w7).alloc (Nat.le_refl _) (.cells #[.int .u64 (sv : Int)] 22)).alloc (by simp) (.cells #[.slice B zs.length d] 29)).alloc (by simp; omega) (.cells #[.int .i64 0] 3))
  have hz8 : (((w7.alloc (.cells #[.int .u64 (sv : Int)] 22)).alloc (.cells #[.slice B zs.length d] 29)).alloc (.cells #[.int .i64 0] 3)).heap.size = w7.heap.size + 3 := by simp
  simp only [World.size_alloc] at d4 d5
  have hI0 := Lib.hid (show IsI w B zs.length d many sv w7.heap.size (w7.heap.size + 1) (w7.heap.size + 1 + 1) 0 _ from ⟨d1, d2, d3, d4, d5, hB12⟩)
  generalize ((w7.alloc (.cells #[.int .u64 (sv : Int)] 22)).alloc (.cells #[.slice B zs.length d] 29)).alloc (.cells #[.int .i64 0] 3) = w8 at hsq8 hz8 hI0 ⊢
  have hsq8' := Lib.hid hsq8
  have hz9 : Hid (w.heap.size + 3 ≤ k ∧ w.heap.size + 3 ≤ b1 ∧ w.heap.size + 3 ≤ b2 ∧ b1 < w7.heap.size ∧ b2 < w7.heap.size ∧ k + 1 < w7.heap.size ∧ w8.heap.size = w7.heap.size + 3) := by have := hz7.out; exact ⟨this.1, this.2.1, this.2.2.1, this.2.2.2.1, this.2.2.2.2, hkl, hz8⟩
  clear m17 m27 hB11 hsq7 hz7 hkl d1 d2 d3 d4 d5 hB12 hsq8 hz8
  generalize w7.heap.size = kb at hI0 hz9 ⊢
  refine (wpIn_wide (n := 3)).1 ?_
  refine wpIn_range_meets 0 rfl (by omega) (gf := 45) (lb := #[.pointer (some ⟨k, 0, none⟩), .pointer (some ⟨k + 1, 0, none⟩)]) rfl trivial (enters_of Try.func45 (by kernel_rfl) rfl)
    (each_stops 2 (by omega) s zs k b1 b2 w8 hsq8'.out) Kept.trans (kept_b (fun b e => by have := hz9.out; unfold Its at e; omega)) (Below.refl _ _) (fun _ => rfl)
    (fun pre W => (pre.length = 0 ∨ pre.length < many) ∧ IsI w B zs.length d many sv kb (kb + 1) (kb + 1 + 1) pre.length W) (IsX w B zs.length d many sv kb (kb + 1) (kb + 1 + 1))
    (IsI w B zs.length d many sv kb (kb + 1) (kb + 1 + 1) (min zs.length (max 1 many)))
    (fun s' X Y row hs hg hr => ⟨hs.1, isI_from (β := List (Fin zs.length)) w B zs.length d many sv kb (kb + 1) (kb + 1 + 1) (fun s => s.length) _ (by have := hz9.out; omega) (by have := hz9.out; omega) (by have := hz9.out; omega) (by have := hz9.out; omega) s' X Y row hs.2 hg hr⟩)
    (fun cd s' X Y row hs hg hr => hs.imp (fun h => h) (fun h => ⟨h.1, isI_from (β := List (Fin zs.length)) w B zs.length d many sv kb (kb + 1) (kb + 1 + 1) (fun s => s.length) _ (by have := hz9.out; omega) (by have := hz9.out; omega) (by have := hz9.out; omega) (by have := hz9.out; omega) s' X Y row h.2 hg hr⟩))
    ⟨.inl rfl, hI0.out⟩
    (fun xs W hx ⟨h1, h2⟩ => by rw [hx, firsts_length (Nat.le_refl _)] at h1 h2; rw [show min zs.length (max 1 many) = zs.length by omega]; exact h2)
    (fun cd pre W ⟨k, hk, hpre⟩ hx => by
      rcases hx with ⟨pre', y, h1, h2⟩ | ⟨⟨h1, h2, h3⟩, h4⟩
      · exact absurd (firsts_place (by omega) (hpre ▸ h1)) h2
      · have hl : pre.length = k + 1 := by rw [hpre]; exact firsts_length (by omega)
        refine ⟨h1, ?_⟩
        rw [show min zs.length (max 1 many) = pre.length by omega]
        exact h4)
    ?a1 ?assign ?body (fun _ _ h => h) ?rest
  case assign =>
    intro l0 y W K hK
    have hK' := Lib.hid hK
    clear hK
    dsimp only [encAt]
    gi_wp2
    exact hK'.out
  case body =>
    rintro l0 pre ⟨j, hj⟩ W ⟨hcond, m1, m2, m3, m4, m5, hB⟩ hlen
    have hcond' := Lib.hid hcond
    clear hcond
    obtain rfl : sv = s := hs0'.out (by omega)
    have c1 : W.cell? ⟨w.heap.size + 1, 0, none⟩ = some (.int .i64 (many : Int)) := m1.cell 0
    have c2 : W.cell? ⟨w.heap.size + 1 + 1, 0, none⟩ = some (.bool false) := m2.cell 0
    have f2 : W.frozen? ⟨w.heap.size + 1 + 1, 0, none⟩ = false := m2.free 0
    have c3 : W.cell? ⟨kb, 0, none⟩ = some (.int .u64 (sv : Int)) := m3.cell 0
    have c4 : W.cell? ⟨kb + 1, 0, none⟩ = some (.slice B zs.length d) := m4.cell 0
    have c5 : W.cell? ⟨kb + 1 + 1, 0, none⟩ = some (.int .i64 (pre.length : Int)) := m5.cell 0
    have f5 : W.frozen? ⟨kb + 1 + 1, 0, none⟩ = false := m5.free 0
    have hgt : decide ((zs.length : Int) ≤ (pre.length : Int)) = false := by rw [decide_eq_false_iff_not]; omega
    have hcv : IntKind.u64.wrap (pre.length : Int) = (pre.length : Int) := by rw [IntKind.wrap_u64]; omega
    have hwx : IntKind.u64.wrap ((sv : Int) + (pre.length : Int)) = ((sv + pre.length : Nat) : Int) := by rw [IntKind.wrap_u64]; omega
    by_cases hy : j = pre.length
    · subst hy
      have h0 : 0 < zs.length := by omega
      obtain ⟨bb, bo, rfl, hSb, hca⟩ := hpw.out.1 h0
      obtain ⟨u, hu⟩ : ∃ u, zs[pre.length]'hj = u := ⟨_, rfl⟩
      have hby : W.cell? ⟨bb, bo + pre.length, none⟩ = some (.int .i64 u) := (hB.cell (p := ⟨bb, bo + pre.length, none⟩) (hS'.out _ hSb)).trans (hca _ _ (by rw [List.getElem?_eq_getElem hj, hu]))
      have m1' := Lib.hid m1
      have m2' := Lib.hid m2
      have m3' := Lib.hid m3
      have m4' := Lib.hid m4
      have m5' := Lib.hid m5
      have hB' := Lib.hid hB
      clear m1 m2 m3 m4 m5 hB hSb hca
      have hlt : (pre.length : Int) < (zs.length : Int) := by omega
      have h1 : (0 : Int) ≤ (pre.length : Int) := by omega
      have hwr : IntKind.i64.wrap ((pre.length : Int) + 1) = (pre.length : Int) + 1 := by rw [IntKind.wrap_i64]; omega
      have huu : (u != u) = false := by simp
      have hxx : ∀ x : Int, (x != x) = false := fun x => by simp
      dsimp only
      rw [hu]
      obtain ⟨x, hx⟩ : ∃ x : Int, (sv : Int) + (pre.length : Int) = x := ⟨_, rfl⟩
      have hwx2 : IntKind.u64.wrap ((sv : Int) + (pre.length : Int)) = x := by rw [hwx, ← hx]; simp
      rw [hx]
      have hxx2 := hxx x
      clear hwx hx hxx
      have hpl : (pre ++ [(⟨pre.length, hj⟩ : Fin zs.length)]).length = pre.length + 1 := by simp
      have hne1 : w.heap.size + 1 ≠ kb + 1 + 1 := by have := hz9.out; omega
      have hne2 : w.heap.size + 1 + 1 ≠ kb + 1 + 1 := by have := hz9.out; omega
      have hne3 : kb ≠ kb + 1 + 1 := by omega
      have hne4 : kb + 1 ≠ kb + 1 + 1 := by omega
      by_cases hmn : many ≤ pre.length + 1
      · have hge : decide ((many : Int) ≤ (pre.length : Int) + 1) = true := by rw [decide_eq_true_iff]; omega
        gi_wp2
        refine ⟨(KeepsOthers.setCell _ _ _).from _, .inr ⟨⟨rfl, by rw [hpl]; exact hmn, by rw [hpl]; rcases hcond'.out with h | h <;> omega⟩, ?_⟩⟩
        rw [hpl]
        exact ⟨m1'.out.other hne1 _, m2'.out.other hne2 _, m3'.out.other hne3 _, m4'.out.other hne4 _, m5'.out.put 0 _, hB'.out.setCell (by have := hz9.out; simp; omega) _⟩
      · have hge : decide ((many : Int) ≤ (pre.length : Int) + 1) = false := by rw [decide_eq_false_iff_not]; omega
        gi_wp2
        refine ⟨(KeepsOthers.setCell _ _ _).from _, (Kept.refl _ _).setCell (by have := hz9.out; unfold Its; simp; omega) _, .inr (by rw [hpl]; omega), ?_⟩
        rw [hpl]
        exact ⟨m1'.out.other hne1 _, m2'.out.other hne2 _, m3'.out.other hne3 _, m4'.out.other hne4 _, m5'.out.put 0 _, hB'.out.setCell (by have := hz9.out; simp; omega) _⟩
    · have hq : (((sv + j : Nat) : Int) != ((sv + pre.length : Nat) : Int)) = true := by rw [bne_iff_ne]; omega
      gi_wp2
      exact ⟨(KeepsOthers.setCell _ _ _).from _, .inl ⟨pre, ⟨j, hj⟩, rfl, hy⟩⟩
  case rest =>
    rintro D W hD hM hDn
    have hM' := Lib.hid hM
    have hDn' := Lib.hid hDn
    obtain ⟨m1, m2, m3, m4, m5, hB⟩ := hM
    have c1 : W.cell? ⟨w.heap.size + 1, 0, none⟩ = some (.int .i64 (many : Int)) := m1.cell 0
    have c4 : W.cell? ⟨kb + 1, 0, none⟩ = some (.slice B zs.length d) := m4.cell 0
    have c5 : W.cell? ⟨kb + 1 + 1, 0, none⟩ = some (.int .i64 ((min zs.length (max 1 many) : Nat) : Int)) := m5.cell 0
    have c2 : W.cell? ⟨w.heap.size + 1 + 1, 0, none⟩ = some (.bool false) := m2.cell 0
    have f2 : W.frozen? ⟨w.heap.size + 1 + 1, 0, none⟩ = false := m2.free 0
    clear m1 m2 m3 m4 m5 hB
    have hbt : ∀ Y : Int, Y = ((min zs.length (max 1 many) : Nat) : Int) → (((min zs.length (max 1 many) : Nat) : Int) == Y) = true := fun Y h => by rw [beq_iff_eq]; exact h.symm
    go_wp2
    all_goals
      rw [hbt _ (by omega)]
      have m2 := hM'.out.2.1
      have x2 := m2.put 0 (.bool true)
      have hdk := hDn'.out.set (i := 0) m2 (.bool true)
      refine ⟨by simp, .inl ⟨_, _, rfl, run_takeDeferred hdk, ?_⟩⟩
      have g13 := (x2.put_obj (.deferred none) (l := D) (by have := hz9.out; omega)).cell 0
      exact ⟨.bool true, by simp [results, Try.results12, go_sem, g13], rfl, (hM'.out.2.2.2.2.2.setCell (by simp; omega) _).trans (belowK_b (w := w) (Nat.le_refl _) _ D _ _ (by have := hz9.out; omega) hdk rfl rfl)⟩
end Go.Proofs.Ytajdlkohnafbeaa
