import Derived.Test.YtajdlkohnafbeaaG
import Derived.Laws.EntriesVeiled
import Derived.BigRegionIn
import Derived.Shelf.Abstract
import Derived.DeepKeys
namespace Go.Proofs.Ytajdlkohnafbeaa
open Go.RowKit Go.Shelf
attribute [local go_sem] Oper.semAt_some
attribute [local go_sem] wide_fn wide_depth wide_round

/-! ## Same -/
theorem NoR.below {W W' : World} {v : Option Addr} (h : NoR W v) (hb : Below W.heap.size W W') : NoR W' v := by
  rcases h with h | ⟨g, h, c⟩
  · exact .inl h
  · exact .inr ⟨g, h, (hb.cell (p := ⟨g, 2, none⟩) (World.block_lt_of_cell? W _ c)).trans c⟩
theorem same_none (v u : Option Addr) (w : World) (h : NoR w v) (h' : NoR w u) :
    Calls Try.prog 15 #[.pointer v, .pointer u] w fun e w' => e = .returned (.bool true) ∧ Below w.heap.size w w' := by
  have hb0 := (Below.refl w.heap.size w).alloc (Nat.le_refl _) (.cells #[.pointer u] 25)
  have k0 := Has.new w 25 #[.pointer u]
  have hA := h.below hb0
  have hA' := h'.below hb0
  have hno := Lib.hid (none_yes v _ hA)
  have hno' := Lib.hid (none_yes u _ hA')
  go_enter Try.func15, Try.ntmps15
  go_wp2_with fail
  generalize (w.alloc (.cells #[.pointer u] 25)) = w0 at hb0 k0 hA hA' hno hno' ⊢
  have e0 := k0.cell 0
  have hb0' := Lib.hid hb0
  simp at e0
  clear h h' hA hA' k0 hb0
  refine wp_scope_on 0 rfl ?_
  go_wp2_with (first | (go_at_call 30; (with_reducible refine hno.out.mono ?_); rintro e w' ⟨rfl, rfl⟩) | (go_at_call 30; (with_reducible refine hno'.out.mono ?_); rintro e w' ⟨rfl, rfl⟩))
  rw [jump_ret]
  go_ret
  exact ⟨rfl, hb0'.out⟩
theorem same_half (g r most first : Nat) (vs : List Int) (u : Option Addr) (w : World) (h : Rg w g r most first vs) (h' : NoR w u) :
    Calls Try.prog 15 #[.pointer (some ⟨g, 0, none⟩), .pointer u] w fun e w' => e = .returned (.bool false) ∧ Below w.heap.size w w' := by
  have hb0 := (Below.refl w.heap.size w).alloc (Nat.le_refl _) (.cells #[.pointer u] 25)
  have k0 := Has.new w 25 #[.pointer u]
  have hA := h.below hb0
  have hA' := h'.below hb0
  have hno := Lib.hid (none_no g r most first vs _ hA)
  have hno' := Lib.hid (none_yes u _ hA')
  go_enter Try.func15, Try.ntmps15
  go_wp2_with fail
  generalize (w.alloc (.cells #[.pointer u] 25)) = w0 at hb0 k0 hA hA' hno hno' ⊢
  have e0 := k0.cell 0
  have hb0' := Lib.hid hb0
  simp at e0
  clear h h' hA hA' k0 hb0
  refine wp_scope_on 0 rfl ?_
  go_wp2_with (first | (go_at_call 30; (with_reducible refine hno.out.mono ?_); rintro e w' ⟨rfl, rfl⟩) | (go_at_call 30; (with_reducible refine hno'.out.mono ?_); rintro e w' ⟨rfl, rfl⟩))
  rw [jump_ret]
  go_ret
  exact ⟨rfl, hb0'.out⟩
theorem same_less (g r most first g' r' most' first' : Nat) (vs vs' : List Int) (w : World) (h : Rg w g r most first vs) (h' : Rg w g' r' most' first' vs') (hne : most ≠ most') :
    Calls Try.prog 15 #[.pointer (some ⟨g, 0, none⟩), .pointer (some ⟨g', 0, none⟩)] w fun e w' => e = .returned (.bool false) ∧ Below w.heap.size w w' := by
  have hb0 := (Below.refl w.heap.size w).alloc (Nat.le_refl _) (.cells #[.pointer (some ⟨g', 0, none⟩)] 25)
  have k0 := Has.new w 25 #[.pointer (some ⟨g', 0, none⟩)]
  have hA := h.below hb0
  have hA' := h'.below hb0
  have hno := Lib.hid (none_no g r most first vs _ hA)
  have hno' := Lib.hid (none_no g' r' most' first' vs' _ hA')
  have hd : (((most : Int) != (most' : Int))) = true := by rw [bne_iff_ne]; omega
  go_enter Try.func15, Try.ntmps15
  go_wp2_with fail
  generalize (w.alloc (.cells #[.pointer (some ⟨g', 0, none⟩)] 25)) = w0 at hb0 k0 hA hA' hno hno' ⊢
  have e0 := k0.cell 0
  obtain ⟨cap, c2⟩ := hA.c2
  obtain ⟨cap', d2⟩ := hA'.c2
  have hb0' := Lib.hid hb0
  simp at e0
  clear h h' hA hA' k0 hne hb0
  refine wp_scope_on 0 rfl ?_
  go_wp2_with (first | (go_at_call 30; (with_reducible refine hno.out.mono ?_); rintro e w' ⟨rfl, rfl⟩) | (go_at_call 30; (with_reducible refine hno'.out.mono ?_); rintro e w' ⟨rfl, rfl⟩))
  go_quiet (fail)
  go_wp2
  rw [jump_ret]
  go_ret
  exact ⟨rfl, below_draws hb0'.out _⟩
theorem lits_ends (a b : Nat) (ha : a ≤ 18446744073709551615) (hb : b ≤ 18446744073709551615) : Try.prog.keyLits 2 46 [.int .u64 (a : Int), .int .u64 (b : Int)] = some [.int .u64 (a : Int), .int .u64 (b : Int)] := by
  have k1 : Try.prog.cellsOf 22 = 1 := by kernel_rfl
  have k2 : Try.prog.cellsOf 46 = 2 := by kernel_rfl
  have w1 : (Lit.int .u64 (a : Int)).wf = true := by simp [Lit.wf, IntKind.min, IntKind.max, IntKind.signed, IntKind.bits]; omega
  have w2 : (Lit.int .u64 (b : Int)).wf = true := by simp [Lit.wf, IntKind.min, IntKind.max, IntKind.signed, IntKind.bits]; omega
  have r2 : List.range 2 = [0, 1] := rfl
  simp [Program.keyLits, Try.underlying46, Try.underlying22, k1, k2, w1, w2, r2]
theorem ends_equal (a b a' b' : Nat) (ha : a ≤ 18446744073709551615) (hb : b ≤ 18446744073709551615) (ha' : a' ≤ 18446744073709551615) (hb' : b' ≤ 18446744073709551615) (w : World) :
    (Op.equalIn 9999 46 (.agg #[.int .u64 (a : Int), .int .u64 (b : Int)]) (.agg #[.int .u64 (a' : Int), .int .u64 (b' : Int)])).run Try.prog w = .ok (decide (a = a' ∧ b = b')) w := by
  obtain ⟨r, hr, hiff⟩ := run_equalIn_deep (P := Try.prog) 9997 2 46 (by kernel_rfl) w 2 2 (.agg #[.int .u64 (a : Int), .int .u64 (b : Int)]) (.agg #[.int .u64 (a' : Int), .int .u64 (b' : Int)]) _ _ (by kernel_rfl) (by kernel_rfl) (lits_ends a b ha hb) (lits_ends a' b' ha' hb')
  rw [hr]
  have : r = decide (a = a' ∧ b = b') := by
    cases r with
    | true =>
      have := hiff.1 rfl
      simp at this
      exact (decide_eq_true ⟨by omega, by omega⟩).symm
    | false =>
      refine (decide_eq_false (fun h => ?_)).symm
      have := hiff.2 (by rw [h.1, h.2])
      cases this
  rw [this]
theorem same_span (g r most first g' r' first' n n' : Nat) (vs vs' : List Int) (w : World) (h : Rg w g r most first vs) (h' : Rg w g' r' most first' vs') (hn : first + vs.length = n) (hn' : first' + vs'.length = n') (hne : first ≠ first' ∨ n ≠ n') :
    Calls Try.prog 15 #[.pointer (some ⟨g, 0, none⟩), .pointer (some ⟨g', 0, none⟩)] w fun e w' => e = .returned (.bool false) ∧ Below w.heap.size w w' := by
  have hb0 := (Below.refl w.heap.size w).alloc (Nat.le_refl _) (.cells #[.pointer (some ⟨g', 0, none⟩)] 25)
  have k0 := Has.new w 25 #[.pointer (some ⟨g', 0, none⟩)]
  have hA := h.below hb0
  have hA' := h'.below hb0
  have hno := Lib.hid (none_no g r most first vs _ hA)
  have hno' := Lib.hid (none_no g' r' most first' vs' _ hA')
  have hd : (((most : Int) != (most : Int))) = false := by simp
  go_enter Try.func15, Try.ntmps15
  go_wp2_with fail
  generalize (w.alloc (.cells #[.pointer (some ⟨g', 0, none⟩)] 25)) = w0 at hb0 k0 hA hA' hno hno' ⊢
  have e0 := k0.cell 0
  obtain ⟨cap, c2⟩ := hA.c2
  obtain ⟨cap', d2⟩ := hA'.c2
  have c0 := hA.c0
  have c1 := hA.c1
  have d0 := hA'.c0
  have d1 := hA'.c1
  rw [hn] at c1
  rw [hn'] at d1
  have heq := fun w => ends_equal first n first' n' (by have := h.num; omega) (by have := h.num; omega) (by have := h'.num; omega) (by have := h'.num; omega) w
  rw [decide_eq_false (by omega)] at heq
  have hb0' := Lib.hid hb0
  have hne' := Lib.hid hne
  simp at e0
  clear h h' hA hA' k0 hne hb0 hn hn'
  refine wp_scope_on 0 rfl ?_
  go_wp2_with (first | (go_at_call 30; (with_reducible refine hno.out.mono ?_); rintro e w' ⟨rfl, rfl⟩) | (go_at_call 30; (with_reducible refine hno'.out.mono ?_); rintro e w' ⟨rfl, rfl⟩))
  go_quiet (fail)
  go_wp2
  rw [jump_ret]
  go_ret
  exact ⟨rfl, below_draws hb0'.out _⟩
/-- What lies while values are held against those of another one. -/
def SameI (w : World) (kp kb : Nat) (g' : Nat) (b : Bool) (W : World) : Prop :=
  Has W kp 25 #[.pointer (some ⟨g', 0, none⟩)] ∧ Has W kb 4 #[.bool b] ∧ Below w.heap.size w W
theorem sameI_from {β : Type} (w : World) (kp kb g' : Nat) (b : β → Bool) (B : Nat) (h1 : kp < B) (h2 : kb < B) (h3 : w.heap.size ≤ B) : OwnFrom B (fun s W => SameI w kp kb g' (b s) W) :=
  OwnFrom.and (has_from h1 _ (fun _ => #[.pointer (some ⟨g', 0, none⟩)])) (OwnFrom.and (has_from h2 _ (fun s => #[.bool (b s)])) (ownFrom_below (Nat.le_refl _) h3))
/-- So far they are the same. -/
def Agree (vs vs' : List Int) (pre : List (Fin vs.length)) : Prop := ∀ i ∈ pre, vs'.getD i.val 0 = vs[i.val]
theorem agree_all {vs vs' : List Int} (hl : vs.length = vs'.length) (h : Agree vs vs' (firsts vs.length vs.length)) : vs' = vs := by
  apply List.ext_getElem hl.symm
  intro i h1 h2
  have := h ⟨i, h2⟩ (by unfold firsts; rw [List.take_of_length_le (by simp)]; exact List.mem_finRange _)
  rw [List.getD_eq_getElem?_getD, List.getElem?_eq_getElem h1] at this
  exact this
set_option maxRecDepth 100000 in
set_option maxHeartbeats 2000000 in
theorem same_loop (g r most first g' r' n : Nat) (vs vs' : List Int) (w : World) (h : Rg w g r most first vs) (h' : Rg w g' r' most first vs') (hn : first + vs.length = n) (hl : vs.length = vs'.length) :
    Calls Try.prog 15 #[.pointer (some ⟨g, 0, none⟩), .pointer (some ⟨g', 0, none⟩)] w fun e w' => e = .returned (.bool (decide (vs' = vs))) ∧ Below w.heap.size w w' := by
  refine (callsIn_wide (n := 3)).1 ?_
  refine callsIn_of_wp_marks Try.func15 rfl trivial ?_ rfl
  refine wpIn_wide.2 ?_
  simp only [Try.ntmps15, List.size_toArray, List.length_cons, List.length_nil, Nat.reduceAdd, Nat.reduceSub, Array.replicate_succ, Array.replicate_zero, List.push_toArray, List.append_toArray, List.nil_append, List.cons_append]
  have hb0 := (Below.refl w.heap.size w).alloc (Nat.le_refl _) (.cells #[.pointer (some ⟨g', 0, none⟩)] 25)
  have k0 := Has.new w 25 #[.pointer (some ⟨g', 0, none⟩)]
  have z0 : (w.alloc (.cells #[.pointer (some ⟨g', 0, none⟩)] 25)).heap.size = w.heap.size + 1 := by simp
  have hA := h.below hb0
  have hA' := h'.below hb0
  have hno := Lib.hid (none_no g r most first vs _ hA)
  have hno' := Lib.hid (none_no g' r' most first vs' _ hA')
  have hd : (((most : Int) != (most : Int))) = false := by simp
  go_wp2_with fail
  generalize (w.alloc (.cells #[.pointer (some ⟨g', 0, none⟩)] 25)) = w0 at hb0 k0 z0 hA hA' hno hno' ⊢
  have e0 := k0.cell 0
  obtain ⟨cap, c2⟩ := hA.c2
  obtain ⟨cap', d2⟩ := hA'.c2
  have c0 := hA.c0
  have c1 := hA.c1
  have d0 := hA'.c0
  have d1 := hA'.c1
  rw [hn] at c1
  rw [← hl, hn] at d1
  have heq := fun w => ends_equal first n first n (by have := h.num; omega) (by have := h.num; omega) (by have := h'.num; omega) (by have := h'.num; omega) w
  rw [decide_eq_true ⟨rfl, rfl⟩] at heq
  have hb0' := Lib.hid hb0
  have hAs := Lib.hid hA
  have k0' := Lib.hid k0
  have z0' := Lib.hid z0
  have h1 := Lib.hid h'
  have hl' := Lib.hid hl
  simp at e0
  clear h h' hA hA' k0 hb0 hn z0 hl
  refine wp_scope_on 0 rfl ?_
  go_wp2_with (first | (go_at_call 30; (with_reducible refine hno.out.mono ?_); rintro e w' ⟨rfl, rfl⟩) | (go_at_call 30; (with_reducible refine hno'.out.mono ?_); rintro e w' ⟨rfl, rfl⟩))
  go_quiet (fail)
  have hb1 : Hid (Below w.heap.size w (w0.drewN nq)) := below_draws hb0'.out nq
  have hA1 : Hid (Rg (w0.drewN nq) g r most first vs) := hAs.out.kept rfl rfl
  have k1 : Hid (Has (w0.drewN nq) w.heap.size 25 #[.pointer (some ⟨g', 0, none⟩)]) := k0'.out.drewN nq
  have z1 : Hid ((w0.drewN nq).heap.size = w.heap.size + 1) := z0'.out
  generalize w0.drewN nq = w1 at hb1 hA1 k1 z1 ⊢
  clear c0 c1 c2 d0 d1 d2 e0 heq hno hno' hd hb0' hAs k0' z0'
  go_wp2_with fail
  have hs1 : (w1.alloc (.cells #[.bool true] 4)).heap.size = w1.heap.size + 1 := by simp
  have hb2 := Lib.hid (hb1.out.alloc hb1.out.size (.cells #[.bool true] 4))
  have hA2 := Lib.hid (hA1.out.below ((Below.refl w1.heap.size w1).alloc (Nat.le_refl _) (.cells #[.bool true] 4)))
  have k2 := Lib.hid (k1.out.alloc (.cells #[.bool true] 4))
  have m2 := Lib.hid (Has.new w1 4 #[.bool true])
  have hs2 := Lib.hid hs1
  clear hs1 hb1 hA1 k1
  go_step3
  generalize w1.alloc (.cells #[.bool true] 4) = w2 at hb2 hA2 k2 m2 hs2 ⊢
  generalize w1.heap.size = kb at m2 hs2 z1 ⊢
  go_wp2_with fail
  refine (first_any g r most first vs w2 hA2.out).mono ?_
  rintro e w3 ⟨rfl, rfl⟩
  go_wp2_with fail
  refine (from_any g r most first first 0 first vs vs w2 hA2.out (by omega) rfl rfl).mono ?_
  rintro e w3 ⟨k, b1, b2, rfl, hseq, hk, ⟨hb1, hb1l⟩, ⟨hb2x, hb2l⟩, hB3⟩
  have k3 : Hid (Has w3 w.heap.size 25 #[.pointer (some ⟨g', 0, none⟩)]) := k2.out.below hB3 k2.out.lt
  have m3 : Hid (Has w3 kb 4 #[.bool true]) := m2.out.below hB3 m2.out.lt
  have hb3 : Hid (Below w.heap.size w w3) := hb2.out.trans (hB3.mono hb2.out.size)
  have hk3 : Hid (w.heap.size < w3.heap.size ∧ kb < w3.heap.size ∧ w.heap.size < kb ∧ w.heap.size < k) := by have := k3.out.lt; have := m3.out.lt; have := z1.out; have := hs2.out; exact ⟨by omega, by omega, by omega, by omega⟩
  have hseq' := Lib.hid hseq
  have hbl : Hid (∀ b, Its k b1 b2 b → b < w3.heap.size ∧ kb < b) := by
    intro b hb
    have := m2.out.lt
    obtain ⟨A, c, B, d, s1, s2, _⟩ := hseq
    have := s2.lt
    rcases hb with hb | hb | hb | hb <;> omega
  clear hseq hB3 k2 m2 hb2 hA2 hb1 hb1l hb2x hb2l hk hs2 z1
  go_wp2
  refine (wpIn_wide (n := 3)).1 ?_
  refine wpIn_range_meets 0 rfl (by omega) (gf := 45) (lb := #[.pointer (some ⟨k, 0, none⟩), .pointer (some ⟨k + 1, 0, none⟩)]) rfl trivial (enters_of Try.func45 (by kernel_rfl) rfl)
    (each_stops 2 (by omega) first vs k b1 b2 w3 hseq'.out) Kept.trans (kept_b (fun b hb => (hbl.out b hb).1)) (Below.refl _ _) (fun _ => rfl)
    (fun pre W => Agree vs vs' pre ∧ SameI w w.heap.size kb g' true W) (fun c pre W => (c = .exit 0 ∧ ∃ i : Fin vs.length, vs'.getD i.val 0 ≠ vs[i.val]) ∧ SameI w w.heap.size kb g' false W)
    (SameI w w.heap.size kb g' (decide (vs' = vs)))
    (fun s X Y row hs hg hr => ⟨hs.1, sameI_from (β := Unit) w w.heap.size kb g' (fun _ => true) _ hk3.out.1 hk3.out.2.1 (Nat.le_of_lt hk3.out.1) () X Y row hs.2 hg hr⟩)
    (fun c s X Y row hs hg hr => ⟨hs.1, sameI_from (β := Unit) w w.heap.size kb g' (fun _ => false) _ hk3.out.1 hk3.out.2.1 (Nat.le_of_lt hk3.out.1) () X Y row hs.2 hg hr⟩)
    ⟨fun i hi => (List.not_mem_nil hi).elim, k3.out, m3.out, hb3.out⟩
    (fun xs W hS ⟨h1, h2⟩ => by rw [hS] at h1; rw [decide_eq_true (agree_all hl'.out h1)]; exact h2)
    (fun c pre W _ ⟨⟨hc, i, hi⟩, h2⟩ => ⟨hc, by rw [decide_eq_false (fun e => hi (by rw [e, List.getD_eq_getElem?_getD, List.getElem?_eq_getElem i.isLt]; rfl))]; exact h2⟩)
    ?a1 ?assign ?body (fun _ _ h => h) ?rest
  case assign =>
    intro l y W K hK
    have hK' := Lib.hid hK
    clear hK
    dsimp only [encAt]
    gi_wp2
    exact hK'.out
  case body =>
    rintro l pre y W ⟨hag, p0, p1, hB⟩ hlen
    have hR := h1.out.below hB
    have hyl : y.val < vs'.length := by have := hl'.out; have := y.isLt; omega
    have c0 : W.cell? ⟨w.heap.size, 0, none⟩ = some (.pointer (some ⟨g', 0, none⟩)) := p0.cell 0
    have e1 : W.cell? ⟨kb, 0, none⟩ = some (.bool true) := p1.cell 0
    have f1 : W.frozen? ⟨kb, 0, none⟩ = false := p1.free 0
    obtain ⟨u, hu⟩ : ∃ u, vs[y.val]'y.isLt = u := ⟨_, rfl⟩
    have hnum := hR.num
    obtain ⟨x, hx⟩ : ∃ x, first + y.val = x := ⟨_, rfl⟩
    obtain ⟨z, hz⟩ : ∃ z, vs'[y.val]'hyl = z := ⟨_, rfl⟩
    obtain ⟨cap3, cs3, row3, hat⟩ := hR
    have hcz := hat.here hyl
    rw [hx, hz] at hcz
    have hcall : Hid (∀ n, CallsIn (Fence.wide.inRound l) n Try.prog 32 #[.pointer (some ⟨g', 0, none⟩), .int .u64 (x : Int)] W fun e w' => e = .returned (.int .i64 z) ∧ ∃ q, w' = W.drewN q) := fun n =>
      CallsIn.inRound l (callsIn_wide (n := n).2 (value_any g' r' most cap3 (x % most) x z W (hat.head.cell 2) hat.pos hat.top (by omega) rfl hcz))
    have hget : Hid (vs'.getD y.val 0 = z) := by show _ = _; rw [List.getD_eq_getElem?_getD, List.getElem?_eq_getElem hyl, hz]; rfl
    have hag' := Lib.hid hag
    have p0' := Lib.hid p0
    have p1' := Lib.hid p1
    have hB' := Lib.hid hB
    have hu' := Lib.hid hu
    rw [show ((first : Int) + ((y.val : Nat) : Int)) = (x : Int) by omega, hu]
    clear hag p0 p1 hB hat hcz hnum hx hz hu
    by_cases heq : z = u
    · have hq : (z != u) = false := by rw [heq]; simp
      have heq' := Lib.hid heq
      clear heq
      gi_wp2_with (first | (gi_at_call 32; refine (hcall.out _).mono ?_; rintro e w' ⟨rfl, q, rfl⟩) | fail)
      refine ⟨(others_drewN _ _).from _, (Kept.refl _ _).draws _, ?_, p0'.out, p1'.out, below_draws hB'.out _⟩
      intro i hi
      rcases List.mem_append.1 hi with hi | hi
      · exact hag'.out i hi
      · rw [List.mem_singleton.1 hi, hget.out, hu'.out]; exact heq'.out
    · have hq : (z != u) = true := by rw [bne_iff_ne]; exact heq
      have heq' := Lib.hid heq
      clear heq
      gi_wp2_with (first | (gi_at_call 32; refine (hcall.out _).mono ?_; rintro e w' ⟨rfl, q, rfl⟩) | fail)
      have hne := hk3.out
      refine ⟨((others_drewN _ _).trans (KeepsOthers.setCell _ _ _)).from _, ⟨rfl, y, by rw [hget.out, hu'.out]; exact heq'.out⟩, (p0'.out.drewN _).other (by omega) _, (p1'.out.drewN _).put 0 _, (below_draws hB'.out _).setCell (show w.heap.size ≤ kb by omega) _⟩
  case rest =>
    rintro D W hD ⟨p0, p1, hB⟩ hKd
    have e1 := p1.cell 0
    go_wp2
    rw [jump_ret]
    refine ⟨by simp, .inl ⟨_, _, rfl, run_takeDeferred hKd, ?_⟩⟩
    exact ⟨_, results_tmp (t := 4) rfl _ _ _, rfl, hB.trans (belowK_b (w := w) (Nat.le_refl _) W D _ _ (by have := hk3.out.1; omega) hKd rfl rfl)⟩
theorem same_any (g r most first g' r' most' first' : Nat) (vs vs' : List Int) (w : World) (h : Rg w g r most first vs) (h' : Rg w g' r' most' first' vs') :
    Calls Try.prog 15 #[.pointer (some ⟨g, 0, none⟩), .pointer (some ⟨g', 0, none⟩)] w fun e w' => e = .returned (.bool (decide (most = most' ∧ first = first' ∧ vs' = vs))) ∧ Below w.heap.size w w' := by
  by_cases h1 : most = most'
  · subst h1
    by_cases h2 : first = first' ∧ first + vs.length = first' + vs'.length
    · obtain ⟨rfl, h3⟩ := h2
      refine (same_loop g r most first g' r' _ vs vs' w h h' rfl (by omega)).mono ?_
      rintro e w' ⟨rfl, hb⟩
      exact ⟨ret_bool (decide_eq_decide.2 ⟨fun h => ⟨rfl, rfl, h⟩, fun h => h.2.2⟩), hb⟩
    · rw [decide_eq_false (fun x => h2 ⟨x.2.1, by rw [x.2.1, x.2.2]⟩)]
      exact same_span g r most first g' r' first' _ _ vs vs' w h h' rfl rfl (by omega)
  · rw [decide_eq_false (fun x => h1 x.1)]
    exact same_less g r most first g' r' most' first' vs vs' w h h' h1
end Go.Proofs.Ytajdlkohnafbeaa
