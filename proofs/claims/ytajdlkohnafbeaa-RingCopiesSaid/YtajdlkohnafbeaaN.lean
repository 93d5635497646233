import Derived.Test.YtajdlkohnafbeaaM
namespace Go.Proofs.Ytajdlkohnafbeaa
open Go.RowKit

/-! ## The document's Put, Set -/
theorem run_append_ints (w : World) (B : Nat) (ty : TypeId) (v : Value) (n g cap : Nat) (xs : List Int) (hv : v = .slice (some ⟨g, 0, none⟩) n cap) (hown : w.ownsRow B 3 1 v n (ints xs)) (A : Option Addr) (m c : Nat) (y : List Int) (hm : y.length = m) (S : Nat → Prop) (hy : Ints w S A y)
    (hs : n + m ≤ 5000) (hB : B ≤ w.heap.size) :
    ∃ v' w', (Builtin.append_ #[29, 29] ty #[v, .slice A m c]).run Try.prog w = .ok v' w' ∧ w'.ownsRow B 3 1 v' (n + m) (ints (xs ++ y)) ∧ w.grownBy w' v.ownBlock ∧ (∃ g' cap', v' = .slice (some ⟨g', 0, none⟩) (n + m) cap') := by
  obtain ⟨i, hi, hz, hsz, hby⟩ := int_info
  have hi1 : ints (xs ++ y) = ints xs ++ ints y := by simp [ints]
  cases A with
  | none =>
    obtain rfl : y = [] := by
      rcases Nat.eq_zero_or_pos y.length with h | h
      · exact List.eq_nil_of_length_eq_zero h
      · obtain ⟨b, o, e, _⟩ := hy h
        cases e
    obtain rfl : m = 0 := hm.symm
    subst hv
    have hnc : n ≤ cap := by
      rcases hown.2 with ⟨h, _⟩ | ⟨g', cap', cur, h, _, _, hnc, _⟩
      · cases h
      · injection h with _ _ h
        omega
    refine ⟨_, w, ?_, by simpa using hown, World.grownBy.refl w _, g, cap, rfl⟩
    simp [Builtin.append_, run_underlying Try.underlying29, sizeOf, typeInfo, hi, Builtin.lenOf, Builtin.firstCells, hnc, storeCells]
  | some ad =>
    have hcells : ∀ j u, (ints y)[j]? = some u → w.cell? (ad.add j) = some u := by
      intro j u hu
      unfold ints at hu
      rw [List.getElem?_map] at hu
      obtain ⟨z, hz1, rfl⟩ := Option.map_eq_some_iff.1 hu
      have hj := (List.getElem?_eq_some_iff.1 hz1).1
      obtain ⟨b, o, e, _, hc⟩ := hy (by omega)
      injection e with e
      subst e
      have := hc j z hz1
      have h0 : (⟨b, o, none⟩ : Addr).add j = ⟨b, o + j, none⟩ := by unfold Addr.add; split <;> simp_all
      rw [h0]; exact this
    obtain ⟨v', w', hrun, h2, h3, h4, h5⟩ := run_append_own_at (P := Try.prog) w B 29 ty 3 i (.int .i64 0) 1 8 Try.underlying29 hi hz hsz hby rfl (by omega) v n (ints xs) hown ad m c (ints y) (by rw [ints_length]; omega) hcells (by intro u hu; obtain ⟨z, _, rfl⟩ := List.mem_map.1 hu; rfl) (by unfold maxLen; omega) (by omega) hB
    rw [← hi1] at h2
    refine ⟨v', w', hrun, h2, h3, ?_⟩
    rcases h2.2 with ⟨h, _⟩ | ⟨g', cap', cur, h, _⟩
    · have := (h4.1 h).1
      subst hv
      cases this
    · exact ⟨g', cap', h⟩
theorem ints_one (w : World) (x : Int) (t : TypeId) : Ints (w.alloc (.cells #[.int .i64 x] t)) (fun _ => True) (some ⟨w.heap.size, 0, none⟩) [x] := fun _ =>
  ⟨w.heap.size, 0, rfl, trivial, fun j z hz => by
    obtain ⟨hj, hz⟩ := List.getElem?_eq_some_iff.1 hz
    obtain rfl : j = 0 := by simp at hj; omega
    subst hz
    exact (Has.new w t #[.int .i64 x]).cell 0⟩
theorem wpList_append_ints {w : World} {ops : Array Oper} {rest : List Oper} {o : Oper} {a : Act} {Q : Exit → Act → World → Prop} (hgd : o.guard = none) (s x : Operand)
    (ho : o.op = .call { callee := .builtin .append, args := #[s, x], argTypes := #[29, 29] })
    (B : Nat) (v : Value) (n g cap : Nat) (xs : List Int) (hs : a.eval s = v) (hv : v = .slice (some ⟨g, 0, none⟩) n cap) (hown : w.ownsRow B 3 1 v n (ints xs)) (A : Option Addr) (m c : Nat) (y : List Int) (hx : a.eval x = .slice A m c) (hm : y.length = m) (S : Nat → Prop) (hy : Ints w S A y)
    (hnm : n + m ≤ 5000) (hB : B ≤ w.heap.size)
    (h : ∀ g' cap' w', w'.ownsRow B 3 1 (.slice (some ⟨g', 0, none⟩) (n + m) cap') (n + m) (ints (xs ++ y)) → w.grownBy w' v.ownBlock → wpList Try.prog ops Q rest (a.put o.dst (.slice (some ⟨g', 0, none⟩) (n + m) cap')) w') :
    wpList Try.prog ops Q (o :: rest) a w := by
  refine wpList_plain hgd fun K hK => ?_
  obtain ⟨v', w', hr, h2, h3, g', cap', rfl⟩ := run_append_ints w B o.type v n g cap xs hv hown A m c y hm S hy hnm hB
  unfold Oper.wp execOp
  simp only [ho, resolve, invoke, builtin, Sem.run_bind, Sem.run_pure, Result.andThen_ok, List.map_toArray, List.map_cons, List.map_nil, hs, hx, hr]
  exact hK _ _ (h g' cap' w' h2 h3)
/-- Nothing that lay has turned, where the row that grew is the call's own. -/
theorem grown_below {w w' : World} {g B n cap : Nat} {t : TypeId} (h : w.grownBy w' (Value.slice (some ⟨g, 0, none⟩) n cap).ownBlock) {xs : List Value} (ho : w.ownsRow B t 1 (.slice (some ⟨g, 0, none⟩) n cap) n xs) (hB : B ≤ w.heap.size) : Below B w w' :=
  ⟨h.os, h.tape, h.output, h.size, fun k hk => h.block k (by omega) (fun e => by
    have := World.ownsRow.lt ho k e.symm
    omega)⟩
theorem own_fine {W : World} {B n cap b : Nat} {zs : List Int} (h : W.ownsRow B 3 1 (.slice (some ⟨b, 0, none⟩) n cap) n (ints zs)) : zs.length = n ∧ Fine W (fun k => B ≤ k ∧ k < W.heap.size) (some ⟨b, 0, none⟩) zs cap := by
  have hl : zs.length = n := by have := h.1; rw [ints_length] at this; omega
  refine ⟨hl, own_ints h, ?_⟩
  rcases h.2 with ⟨h, _⟩ | ⟨g', cap', cur, h, _, _, hnc, hcm, _⟩
  · cases h
  · injection h with _ _ h
    unfold maxLen at hcm
    omega
/-- A box of three cells, filled. -/
theorem fill3 {W : World} {k : Nat} {t : TypeId} {a b c : Value} (h : Has W k t #[a, b, c]) (u v x : Value) :
    (W.setCell ⟨k, 0, none⟩ u).cell? ⟨k, 0, none⟩ = some u ∧ ((W.setCell ⟨k, 0, none⟩ u).setCell ⟨k, 1, none⟩ v).cell? ⟨k, 1, none⟩ = some v ∧ (((W.setCell ⟨k, 0, none⟩ u).setCell ⟨k, 1, none⟩ v).setCell ⟨k, 2, none⟩ x).cell? ⟨k, 2, none⟩ = some x ∧
    Only k W (((W.setCell ⟨k, 0, none⟩ u).setCell ⟨k, 1, none⟩ v).setCell ⟨k, 2, none⟩ x) :=
  ⟨(h.put 0 u).cell 0, ((h.put 0 u).put 1 v).cell 1, (((h.put 0 u).put 1 v).put 2 x).cell 2, ((only_setCell k 0 W u).trans (only_setCell k 1 _ v)).trans (only_setCell k 2 _ x)⟩
def RPutOf (first most N : Nat) (zs : List Int) (v : Int) (had : Bool) (w : World) (e : Ending) (w' : World) : Prop :=
  ∃ B d, e = .returned (.tuple #[rv B zs.length d first most, .int .u64 (N : Int), .int .i64 v, .bool had, .int .i64 0]) ∧ Fine w' (fun k => w.heap.size ≤ k ∧ k < w'.heap.size) B zs d ∧ Below w.heap.size w w'
theorem refPut_full (A : Option Addr) (n c first most : Nat) (x : Int) (w : World) (hf : 18446744073709551614 < first + n) (hf2 : first + n ≤ 18446744073709551615) :
    Calls Try.prog 24 #[rv A n c first most, .int .i64 x] w fun e w' => e = .returned (.tuple #[rv A n c first most, .int .u64 0, .int .i64 0, .bool false, .int .i64 111]) ∧ Below w.heap.size w w' := by
  have hnx := Lib.hid (fun w => refNext_any A n c first most 18446744073709551615 w (by omega) (by omega))
  unfold rv at hnx ⊢
  clear hf hf2
  go_enter Try.func24, Try.ntmps24
  go_wp2_with fail
  have k1 := Has.new (w.alloc (.cells #[.slice A n c, .int .u64 (first : Int), .int .i64 (most : Int)] 31)) 31 #[.slice none 0 0, .int .u64 0, .int .i64 0]
  have k0 := (Has.new w 31 #[.slice A n c, .int .u64 (first : Int), .int .i64 (most : Int)]).alloc (.cells #[.slice none 0 0, .int .u64 0, .int .i64 0] 31)
  have hB := ((Below.refl w.heap.size w).alloc (Nat.le_refl _) (.cells #[.slice A n c, .int .u64 (first : Int), .int .i64 (most : Int)] 31)).alloc (by simp) (.cells #[.slice none 0 0, .int .u64 0, .int .i64 0] 31)
  simp only [World.size_alloc] at k1
  generalize (w.alloc (.cells #[.slice A n c, .int .u64 (first : Int), .int .i64 (most : Int)] 31)).alloc (.cells #[.slice none 0 0, .int .u64 0, .int .i64 0] 31) = w2 at k0 k1 hB ⊢
  refine (hnx.out w2).mono ?_
  rintro e w3 ⟨rfl, hB3⟩
  have k03 := k0.below hB3 k0.lt
  have k13 := k1.below hB3 k1.lt
  have hB4 := Lib.hid (hB.trans (hB3.mono hB.size))
  have e0 : w3.cell? ⟨w.heap.size, 0, none⟩ = some (.slice A n c) := k03.cell 0
  have e1 : w3.cell? ⟨w.heap.size, 1, none⟩ = some (.int .u64 (first : Int)) := k03.cell 1
  have e2 : w3.cell? ⟨w.heap.size, 2, none⟩ = some (.int .i64 (most : Int)) := k03.cell 2
  have d0 : w3.cell? ⟨w.heap.size + 1, 0, none⟩ = some (.slice none 0 0) := k13.cell 0
  have d1 : w3.cell? ⟨w.heap.size + 1, 1, none⟩ = some (.int .u64 0) := k13.cell 1
  have d2 : w3.cell? ⟨w.heap.size + 1, 2, none⟩ = some (.int .i64 0) := k13.cell 2
  have f0 : w3.frozen? ⟨w.heap.size + 1, 0, none⟩ = false := k13.free 0
  have f1 : w3.frozen? ⟨w.heap.size + 1, 1, none⟩ = false := k13.free 1
  have f2 : w3.frozen? ⟨w.heap.size + 1, 2, none⟩ = false := k13.free 2
  have k13' := Lib.hid k13
  clear k0 k1 hB hB3 k03 k13 hnx
  go_wp2
  have hF0 := k13'.out.put 0 (.slice A n c)
  have hF1 := hF0.put 1 (.int .u64 (first : Int))
  have hF2 := hF1.put 2 (.int .i64 (most : Int))
  have x0 := hF0.cell 0
  have x1 := hF1.cell 1
  have x2 := hF2.cell 2
  simp at x0 x1 x2
  refine bodyPost_ret (v := .tuple #[.agg #[.slice A n c, .int .u64 (first : Int), .int .i64 (most : Int)], .int .u64 0, .int .i64 0, .bool false, .int .i64 111]) (by simp [results, Try.results24, go_sem, x0, x1, x2]) rfl ⟨rfl, ?_⟩
  exact (((hB4.out.setCell (p := ⟨w.heap.size + 1, 0, none⟩) (by simp) _).setCell (p := ⟨w.heap.size + 1, 1, none⟩) (by simp) _).setCell (p := ⟨w.heap.size + 1, 2, none⟩) (by simp) _)
set_option maxHeartbeats 1000000 in
theorem refPut_room (A : Option Addr) (l : List Int) (n c first most N : Nat) (x : Int) (S : Nat → Prop) (w : World) (hp : Fine w S A l c) (hS : ∀ k, S k → k < w.heap.size) (hn : l.length = n) (hN : first + n = N) (hN2 : N ≤ 18446744073709551614) (hr : n < most) (hm : most ≤ 4096) :
    Calls Try.prog 24 #[rv A n c first most, .int .i64 x] w (RPutOf first most N (l ++ [x]) 0 false w) := by
  have hnx := Lib.hid (fun w => refNext_any A n c first most N w hN (by omega))
  unfold rv at hnx ⊢
  have hp' := Lib.hid hp
  have hS' := Lib.hid hS
  have hn' := Lib.hid hn
  have hri : (n : Int) + 1 ≤ (most : Int) := by omega
  have hn5 : Hid (n ≤ 4096) := by show _ ≤ _; omega
  clear hp hS hn hN
  go_enter Try.func24, Try.ntmps24
  go_wp2_with fail
  have k1 := Has.new (w.alloc (.cells #[.slice A n c, .int .u64 (first : Int), .int .i64 (most : Int)] 31)) 31 #[.slice none 0 0, .int .u64 0, .int .i64 0]
  have k0 := (Has.new w 31 #[.slice A n c, .int .u64 (first : Int), .int .i64 (most : Int)]).alloc (.cells #[.slice none 0 0, .int .u64 0, .int .i64 0] 31)
  have hB := ((Below.refl w.heap.size w).alloc (Nat.le_refl _) (.cells #[.slice A n c, .int .u64 (first : Int), .int .i64 (most : Int)] 31)).alloc (by simp) (.cells #[.slice none 0 0, .int .u64 0, .int .i64 0] 31)
  simp only [World.size_alloc] at k1
  generalize (w.alloc (.cells #[.slice A n c, .int .u64 (first : Int), .int .i64 (most : Int)] 31)).alloc (.cells #[.slice none 0 0, .int .u64 0, .int .i64 0] 31) = w2 at k0 k1 hB ⊢
  refine (hnx.out w2).mono ?_
  rintro e w3 ⟨rfl, hB3⟩
  have k03 := Lib.hid (k0.below hB3 k0.lt)
  have k13 := Lib.hid (k1.below hB3 k1.lt)
  have hB4 := Lib.hid (hB.trans (hB3.mono hB.size))
  have e0 : (w3.alloc (.cells #[] 3)).cell? ⟨w.heap.size, 0, none⟩ = some (.slice A n c) := (k03.out.alloc _).cell 0
  have hlt3 := Lib.hid k13.out.lt
  clear k0 k1 hB hB3 hnx
  go_upto_region 5 with (first
    | (at_builtin
       refine wpList_append_ints rfl (.tmp 16) (.tmp 18) rfl w3.heap.size _ 0 w3.heap.size 0 [] rfl rfl (World.ownsRow_made w3 #[] 0 (Nat.le_refl _) (Nat.zero_le _) rfl) A n c l rfl hn'.out S (hp'.out.1.kept (Kept.below (hB4.out.alloc hB4.out.size _) hS'.out)) (by have := hn5.out; omega) (by simp) ?_
       intro g4 c4 w4 o4 gr4
       rw [Nat.zero_add, List.nil_append] at o4
       have o4' := Lib.hid o4
       have hB5 : Hid (Below w3.heap.size w3 w4) := ((Below.refl w3.heap.size w3).alloc (Nat.le_refl _) (.cells #[] 3)).trans (grown_below gr4 (World.ownsRow_made w3 #[] 0 (Nat.le_refl _) (Nat.zero_le _) rfl : (w3.alloc (.cells #[] 3)).ownsRow w3.heap.size 3 1 _ 0 []) (by simp))
       clear o4 gr4)
    | (at_builtin
       refine wpList_append_ints rfl (.tmp 19) (.tmp 21) rfl w3.heap.size _ n g4 c4 l rfl rfl (o4'.out.alloc _) (some ⟨w4.heap.size, 0, none⟩) 1 1 [x] rfl rfl (fun _ => True) (ints_one _ _ _) (by have := hn5.out; omega) (by have := hB5.out.size; simp; omega) ?_
       intro g5 c5 w5 o5 gr5
       have o5' := Lib.hid o5
       have hB6 : Hid (Below w3.heap.size w3 w5) := (hB5.out.alloc hB5.out.size (.cells #[.int .i64 x] 3)).trans (grown_below gr5 (o4'.out.alloc _) (by have := hB5.out.size; simp; omega))
       clear o5 gr5 hB5 o4')
    | (at_builtin
       trace_state
       sorry))
  have k05 := k03.out.below hB6.out k03.out.lt
  have k15 := k13.out.below hB6.out k13.out.lt
  have hB7 := Lib.hid (hB4.out.trans (hB6.out.mono hB4.out.size))
  have g1 : w5.cell? ⟨w.heap.size, 1, none⟩ = some (.int .u64 (first : Int)) := k05.cell 1
  have g2 : w5.cell? ⟨w.heap.size, 2, none⟩ = some (.int .i64 (most : Int)) := k05.cell 2
  have d0 : w5.cell? ⟨w.heap.size + 1, 0, none⟩ = some (.slice none 0 0) := k15.cell 0
  have d1 : w5.cell? ⟨w.heap.size + 1, 1, none⟩ = some (.int .u64 0) := k15.cell 1
  have d2 : w5.cell? ⟨w.heap.size + 1, 2, none⟩ = some (.int .i64 0) := k15.cell 2
  have f0 : w5.frozen? ⟨w.heap.size + 1, 0, none⟩ = false := k15.free 0
  have f1 : w5.frozen? ⟨w.heap.size + 1, 1, none⟩ = false := k15.free 1
  have f2 : w5.frozen? ⟨w.heap.size + 1, 2, none⟩ = false := k15.free 2
  have k15' := Lib.hid k15
  have hge : Hid (w.heap.size + 2 ≤ w3.heap.size) := by have := hlt3.out; show _ ≤ _; omega
  clear e0 k05 k15 hB6 k03 k13
  go_wp2
  obtain ⟨x0, x1, x2, ho⟩ := fill3 k15'.out (.slice (some ⟨g5, 0, none⟩) (n + 1) c5) (.int .u64 (first : Int)) (.int .i64 (most : Int))
  refine bodyPost_ret (v := .tuple #[.agg #[.slice (some ⟨g5, 0, none⟩) (n + 1) c5, .int .u64 (first : Int), .int .i64 (most : Int)], .int .u64 (N : Int), .int .i64 0, .bool false, .int .i64 0]) (by simp [results, Try.results24, go_sem, x0, x1, x2]) rfl ?_
  obtain ⟨hl5, hf5⟩ := own_fine o5'.out
  have hge2 := hge.out
  refine ⟨some ⟨g5, 0, none⟩, c5, by unfold rv; rw [hl5], (hf5.kept (fun k hk => ho.block k (by have := hk.1; omega))).mono (fun k hk => ?_), hB7.out.trans (ho.below (by omega))⟩
  rw [ho.size]
  exact ⟨by have := hk.1; omega, hk.2⟩
set_option maxHeartbeats 1000000 in
theorem refPut_over (A : Option Addr) (l : List Int) (n c first most N : Nat) (x : Int) (S : Nat → Prop) (w : World) (hp : Fine w S A l c) (hS : ∀ k, S k → k < w.heap.size) (hn : l.length = n) (hN : first + n = N) (hN2 : N ≤ 18446744073709551614) (hr : n = most) (hm : most ≤ 4096) (hpos : 1 ≤ most) (y : Int) (zs : List Int) (hy : l ++ [x] = y :: zs) :
    Calls Try.prog 24 #[rv A n c first most, .int .i64 x] w (RPutOf (first + 1) most N zs y true w) := by
  have hnx := Lib.hid (fun w => refNext_any A n c first most N w hN (by omega))
  unfold rv at hnx ⊢
  have hp' := Lib.hid hp
  have hS' := Lib.hid hS
  have hn' := Lib.hid hn
  have hri : (most : Int) < (n : Int) + 1 := by omega
  have hy' := Lib.hid hy
  have hwr : IntKind.u64.wrap ((first : Int) + 1) = (first : Int) + 1 := by rw [IntKind.wrap_u64]; omega
  have hn1 : Hid (1 ≤ n) := by show _ ≤ _; omega
  have hn5 : Hid (n ≤ 4096) := by show _ ≤ _; omega
  clear hp hS hn hN hy hr
  go_enter Try.func24, Try.ntmps24
  go_wp2_with fail
  have k1 := Has.new (w.alloc (.cells #[.slice A n c, .int .u64 (first : Int), .int .i64 (most : Int)] 31)) 31 #[.slice none 0 0, .int .u64 0, .int .i64 0]
  have k0 := (Has.new w 31 #[.slice A n c, .int .u64 (first : Int), .int .i64 (most : Int)]).alloc (.cells #[.slice none 0 0, .int .u64 0, .int .i64 0] 31)
  have hB := ((Below.refl w.heap.size w).alloc (Nat.le_refl _) (.cells #[.slice A n c, .int .u64 (first : Int), .int .i64 (most : Int)] 31)).alloc (by simp) (.cells #[.slice none 0 0, .int .u64 0, .int .i64 0] 31)
  simp only [World.size_alloc] at k1
  generalize (w.alloc (.cells #[.slice A n c, .int .u64 (first : Int), .int .i64 (most : Int)] 31)).alloc (.cells #[.slice none 0 0, .int .u64 0, .int .i64 0] 31) = w2 at k0 k1 hB ⊢
  refine (hnx.out w2).mono ?_
  rintro e w3 ⟨rfl, hB3⟩
  have k03 := Lib.hid (k0.below hB3 k0.lt)
  have k13 := Lib.hid (k1.below hB3 k1.lt)
  have hB4 := Lib.hid (hB.trans (hB3.mono hB.size))
  have e0 : (w3.alloc (.cells #[] 3)).cell? ⟨w.heap.size, 0, none⟩ = some (.slice A n c) := (k03.out.alloc _).cell 0
  have hlt3 := Lib.hid k13.out.lt
  clear k0 k1 hB hB3 hnx
  go_upto_region 5 with (first
    | (at_builtin
       refine wpList_append_ints rfl (.tmp 16) (.tmp 18) rfl w3.heap.size _ 0 w3.heap.size 0 [] rfl rfl (World.ownsRow_made w3 #[] 0 (Nat.le_refl _) (Nat.zero_le _) rfl) A n c l rfl hn'.out S (hp'.out.1.kept (Kept.below (hB4.out.alloc hB4.out.size _) hS'.out)) (by have := hn5.out; omega) (by simp) ?_
       intro g4 c4 w4 o4 gr4
       rw [Nat.zero_add, List.nil_append] at o4
       have o4' := Lib.hid o4
       have hB5 : Hid (Below w3.heap.size w3 w4) := ((Below.refl w3.heap.size w3).alloc (Nat.le_refl _) (.cells #[] 3)).trans (grown_below gr4 (World.ownsRow_made w3 #[] 0 (Nat.le_refl _) (Nat.zero_le _) rfl : (w3.alloc (.cells #[] 3)).ownsRow w3.heap.size 3 1 _ 0 []) (by simp))
       clear o4 gr4)
    | (at_builtin
       refine wpList_append_ints rfl (.tmp 19) (.tmp 21) rfl w3.heap.size _ n g4 c4 l rfl rfl (o4'.out.alloc _) (some ⟨w4.heap.size, 0, none⟩) 1 1 [x] rfl rfl (fun _ => True) (ints_one _ _ _) (by have := hn5.out; omega) (by have := hB5.out.size; simp; omega) ?_
       intro g5 c5 w5 o5 gr5
       have o5' := Lib.hid o5
       have hB6 : Hid (Below w3.heap.size w3 w5) := (hB5.out.alloc hB5.out.size (.cells #[.int .i64 x] 3)).trans (grown_below gr5 (o4'.out.alloc _) (by have := hB5.out.size; simp; omega))
       clear o5 gr5 hB5 o4')
    | (at_builtin
       trace_state
       sorry))
  have k05 := k03.out.below hB6.out k03.out.lt
  have k15 := k13.out.below hB6.out k13.out.lt
  have hB7 := Lib.hid (hB4.out.trans (hB6.out.mono hB4.out.size))
  have g1 : w5.cell? ⟨w.heap.size, 1, none⟩ = some (.int .u64 (first : Int)) := k05.cell 1
  have g2 : w5.cell? ⟨w.heap.size, 2, none⟩ = some (.int .i64 (most : Int)) := k05.cell 2
  have d0 : w5.cell? ⟨w.heap.size + 1, 0, none⟩ = some (.slice none 0 0) := k15.cell 0
  have d1 : w5.cell? ⟨w.heap.size + 1, 1, none⟩ = some (.int .u64 0) := k15.cell 1
  have d2 : w5.cell? ⟨w.heap.size + 1, 2, none⟩ = some (.int .i64 0) := k15.cell 2
  have f0 : w5.frozen? ⟨w.heap.size + 1, 0, none⟩ = false := k15.free 0
  have f1 : w5.frozen? ⟨w.heap.size + 1, 1, none⟩ = false := k15.free 1
  have f2 : w5.frozen? ⟨w.heap.size + 1, 2, none⟩ = false := k15.free 2
  have k15' := Lib.hid k15
  have hge : Hid (w.heap.size + 2 ≤ w3.heap.size) := by have := hlt3.out; show _ ≤ _; omega
  clear e0 k05 k15 hB6 k03 k13
  go_wp2
  obtain ⟨hl5, hf5⟩ := own_fine o5'.out
  have hz5 := own_at (j := 0) (z := y) o5'.out (by rw [hy'.out]; rfl)
  have hlt5 := World.ownsRow.lt o5'.out g5 rfl
  have hmc := hf5.2.1
  have hmc2 := hf5.2.2
  rw [hl5] at hmc
  rw [hy'.out] at hl5 hf5
  have hge2 := hge.out
  have hn2 := hn1.out
  generalize hnm : n + 1 = m at o5' hmc hl5 ⊢
  have h1m : (1 : Int) ≤ (m : Int) := by omega
  have h0m : (0 : Int) < (m : Int) := by omega
  have h0mn : 0 < m := by omega
  have hmci : (m : Int) ≤ (c5 : Int) := by omega
  have h1c : (1 : Int) ≤ (c5 : Int) := by omega
  have hc1 : ¬ c5 = 1 := by omega
  have e1 : w5.drew.cell? ⟨w.heap.size, 1, none⟩ = some (.int .u64 (first : Int)) := g1
  have e2 : w5.drew.cell? ⟨w.heap.size, 2, none⟩ = some (.int .i64 (most : Int)) := g2
  have ez : w5.drew.cell? ⟨g5, 0, none⟩ = some (.int .i64 y) := hz5
  have hg5 : g5 ≠ w.heap.size + 1 := by omega
  have hf5' := Lib.hid hf5
  have hl5' := Lib.hid hl5
  have hnm' := Lib.hid hnm
  have hmc' := Lib.hid (And.intro hmc hmc2)
  have honly : Hid (∀ u0 u1 u2, Only (w.heap.size + 1) w5 (((w5.setCell ⟨w.heap.size + 1, 0, none⟩ u0).setCell ⟨w.heap.size + 1, 1, none⟩ u1).setCell ⟨w.heap.size + 1, 2, none⟩ u2)) := fun u0 u1 u2 => (fill3 k15'.out u0 u1 u2).2.2.2
  clear g1 g2 hz5 hf5 hl5 hnm hmc hmc2 hn2 hge2 hlt5
  go_region_held3 (fun w' => w'.cell? ⟨w.heap.size, 1, none⟩ = some (.int .u64 (first : Int)) ∧ w'.cell? ⟨w.heap.size, 2, none⟩ = some (.int .i64 (most : Int)) ∧ w'.cell? ⟨g5, 0, none⟩ = some (.int .i64 y))
    (first | exact ⟨e1, e2, ez⟩ | exact ⟨(World.cell?_of_block (a := ⟨w.heap.size, 1, none⟩) ((honly.out _ _ _).block w.heap.size (by show w.heap.size ≠ _; omega))).trans e1, (World.cell?_of_block (a := ⟨w.heap.size, 2, none⟩) ((honly.out _ _ _).block w.heap.size (by show w.heap.size ≠ _; omega))).trans e2, (World.cell?_of_block (a := ⟨g5, 0, none⟩) ((honly.out _ _ _).block g5 hg5)).trans ez⟩)
    (fail)
  go_wp2
  obtain ⟨x0, x1, x2, ho⟩ := fill3 k15'.out (.slice (some ⟨g5, 1, none⟩) (m - 1) (c5 - 1)) (.int .u64 ((first : Int) + 1)) (.int .i64 (most : Int))
  refine bodyPost_ret (v := .tuple #[.agg #[.slice (some ⟨g5, 1, none⟩) (m - 1) (c5 - 1), .int .u64 ((first : Int) + 1), .int .i64 (most : Int)], .int .u64 (N : Int), .int .i64 y, .bool true, .int .i64 0]) (by simp [results, Try.results24, go_sem, x0, x1, x2]) rfl ?_
  have hge2 := hge.out
  have hl6 := hl5'.out
  simp only [List.length_cons] at hl6
  have hm6 := hmc'.out
  have hlt5 := World.ownsRow.lt o5'.out g5 rfl
  refine ⟨some ⟨g5, 1, none⟩, c5 - 1, by unfold rv; rw [show m - 1 = zs.length by omega]; rfl, ⟨(((hf5'.out.1.drop 1).kept (W' := (((w5.setCell ⟨w.heap.size + 1, 0, none⟩ (.slice (some ⟨g5, 1, none⟩) (m - 1) (c5 - 1))).setCell ⟨w.heap.size + 1, 1, none⟩ (.int .u64 ((first : Int) + 1))).setCell ⟨w.heap.size + 1, 2, none⟩ (.int .i64 (most : Int))).drew) (fun k hk => ho.block k (by have := hk.1; omega))).mono (fun k hk => ⟨by have := hk.1; omega, by have h1 := hk.2; rw [← ho.size] at h1; exact h1⟩)), by omega, by omega⟩, (hB7.out.trans (ho.below (by omega))).drew⟩
end Go.Proofs.Ytajdlkohnafbeaa
