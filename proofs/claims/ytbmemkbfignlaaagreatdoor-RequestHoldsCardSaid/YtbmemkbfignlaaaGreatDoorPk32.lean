import Derived.Test.YtbmemkbfignlaaaGreatDoorPk31
import Derived.Test.YtbmemkbfignlaaaGreatDoorPk30
import Derived.Test.YtbmemkbfignlaaaGreatDoorPk3
import Derived.Maps.AppendAt
import Derived.OwnWalkIn
import Derived.Test.YtbmemkbfignlaaaGreatDoorPk4
import Derived.Deep.Cut
import Derived.Test.YtbmemkbfignlaaaGreatDoorPk28
namespace Go.Proofs.YtbmemkbfignlaaaGreatDoor
open Go.RowKit
attribute [local go_sem] Oper.semAt_some
attribute [local go_sem] wideF_fn wideF_depth wideF_round

/-! ## A list's items, one by one -/
theorem each_maker (s : List UInt8) (c : UInt8) (w : World) : Calls Tryz.prog 214 #[.string ⟨s.toArray⟩, .int .u8 (c.toNat : Int)] w fun e w' => e = .returned (.func (.func 222) #[] #[.pointer (some ⟨w.heap.size, 0, none⟩), .pointer (some ⟨w.heap.size + 1, 0, none⟩)]) ∧ w' = (w.alloc (.cells #[.string ⟨s.toArray⟩] 9)).alloc (.cells #[.int .u8 (c.toNat : Int)] 5) := by
  go_enter Tryz.func214, Tryz.ntmps214
  go_wp2
  go_ret
  exact ⟨rfl, rfl⟩
theorem items_maker (s : List UInt8) (w : World) : Calls Tryz.prog 203 #[.string ⟨s.toArray⟩] w fun e w' => e = .returned (.func (.func 213) #[] #[.pointer (some ⟨w.heap.size, 0, none⟩)]) ∧ w' = w.alloc (.cells #[.string ⟨s.toArray⟩] 9) := by
  go_enter Tryz.func203, Tryz.ntmps203
  go_wp2
  go_ret
  exact ⟨rfl, rfl⟩
/-- How many of the first ones count. -/
def cntI (L : List (List UInt8)) (j : Nat) : Nat := ((L.take j).filter fun t => !t.isEmpty).length
theorem cntI_no {L : List (List UInt8)} {j : Nat} (h : j < L.length) (h0 : L[j] = []) : cntI L (j + 1) = cntI L j := by
  unfold cntI
  rw [List.take_succ_eq_append_getElem h, h0, List.filter_append]
  simp
theorem cntI_yes {L : List (List UInt8)} {j : Nat} (h : j < L.length) (h0 : L[j] ≠ []) : cntI L (j + 1) = cntI L j + 1 ∧ cntI L j < (L.filter fun t => !t.isEmpty).length ∧ (L.filter fun t => !t.isEmpty).getD (cntI L j) [] = L[j] := by
  have hy : (!(L[j]).isEmpty) = true := by cases hL : L[j] with
    | nil => exact absurd hL h0
    | cons a b => rfl
  have e : L.filter (fun t => !t.isEmpty) = (L.take j).filter (fun t => !t.isEmpty) ++ L[j] :: (L.drop (j + 1)).filter (fun t => !t.isEmpty) := by
    conv => lhs; rw [← List.take_append_drop j L, List.drop_eq_getElem_cons h]
    rw [List.filter_append, List.filter_cons, if_pos hy]
  refine ⟨?_, ?_, ?_⟩
  · unfold cntI
    rw [List.take_succ_eq_append_getElem h, List.filter_append, List.filter_cons, if_pos hy]
    simp
  · rw [e]; unfold cntI; simp
  · rw [e, List.getD_eq_getElem?_getD]
    unfold cntI
    rw [List.getElem?_append_right (Nat.le_refl _)]
    simp
theorem cntI_le (L : List (List UInt8)) (j : Nat) : cntI L j ≤ L.length := Nat.le_trans (List.length_filter_le _ _) (by rw [List.length_take]; omega)
def encIt (l : List (List UInt8)) (j : Nat) : Array Value := #[.int .i64 (j : Int), .string ⟨(l.getD j []).toArray⟩]
def cap1 (B : Nat) : Nat → Prop := fun k => k = B
set_option maxRecDepth 100000 in
set_option maxHeartbeats 4000000 in
theorem items1_seq (n : Nat) (s : List UInt8) (hs : s.length ≤ 1000000) (B : Nat) (w : World) (k1 : Has w B 9 #[.string ⟨s.toArray⟩]) :
    SeqU n Tryz.prog 213 #[.pointer (some ⟨B, 0, none⟩)] (encIt (Ac.items s)) (cap1 B) (Ac.items s).length w := by
  intro l J Jx D Jp U0 W hW hcap hU0 hJ hJx hJp hY h0
  have k1 := k1.below hW k1.lt
  obtain ⟨b, hb⟩ : ∃ b, W.heap.size = b := ⟨_, rfl⟩
  obtain ⟨Wa, hWa⟩ : ∃ Wa, W.alloc (.cells #[.func (.yield l) #[] #[]] 168) = Wa := ⟨_, rfl⟩
  have hBa : Below W.heap.size W Wa := by rw [← hWa]; exact (Below.refl _ _).alloc (Nat.le_refl _) _
  have kba : Has Wa b 168 #[.func (.yield l) #[] #[]] := by rw [← hWa, ← hb]; exact Has.new _ _ _
  have za : Wa.heap.size = b + 1 := by rw [← hWa, World.size_alloc, hb]
  obtain ⟨Wb, hWb⟩ : ∃ Wb, Wa.alloc (.cells #[.int .i64 0] 3) = Wb := ⟨_, rfl⟩
  have knb : Has Wb (b + 1) 3 #[.int .i64 0] := by rw [← hWb, ← za]; exact Has.new _ _ _
  have cnb := knb.cell 0
  have fnb := knb.free 0
  obtain ⟨W1, hW1⟩ : ∃ W1, Wb.setCell ⟨b + 1, 0, none⟩ (.int .i64 0) = W1 := ⟨_, rfl⟩
  have hB1 : Below Wa.heap.size Wa W1 := by rw [← hW1, ← hWb]; exact ((Below.refl _ _).alloc (Nat.le_refl _) _).setCell (p := ⟨b + 1, 0, none⟩) (by show Wa.heap.size ≤ b + 1; omega) _
  have kb : Has W1 b 168 #[.func (.yield l) #[] #[]] := kba.below hB1 kba.lt
  have kn : Has W1 (b + 1) 3 #[.int .i64 0] := by rw [← hW1]; simpa using knb.put 0 (.int .i64 0)
  have z1 : W1.heap.size = b + 1 + 1 := by rw [← hW1, ← hWb]; simp [World.setCell, za]
  have hB01 : Below W.heap.size W W1 := hBa.trans (hB1.mono hBa.size)
  have k1b := k1.below hB01 k1.lt
  obtain ⟨W2, hW2⟩ : ∃ W2, (W1.alloc (.cells #[.string ⟨s.toArray⟩] 9)).alloc (.cells #[.int .u8 ((44 : UInt8).toNat : Int)] 5) = W2 := ⟨_, rfl⟩
  have hp := each_maker s 44 W1
  rw [hW2] at hp
  have hp1 : Has W2 (b + 1 + 1) 9 #[.string ⟨s.toArray⟩] := by rw [← hW2, ← z1]; exact (Has.new _ _ _).alloc _
  have hp2 : Has W2 (b + 1 + 1 + 1) 5 #[.int .u8 ((44 : UInt8).toNat : Int)] := by
    have := Has.new (W1.alloc (.cells #[.string ⟨s.toArray⟩] 9)) 5 #[.int .u8 ((44 : UInt8).toNat : Int)]
    rw [hW2, World.size_alloc, z1] at this
    exact this
  have hB2 : Below W1.heap.size W1 W2 := by rw [← hW2]; exact ((Below.refl _ _).alloc (Nat.le_refl _) _).alloc (by simp) _
  have z2 : W2.heap.size = b + 4 := by rw [← hW2]; simp [z1]
  have hBW2 : Below W.heap.size W W2 := hB01.trans (hB2.mono hB01.size)
  rw [z1, show ((44 : UInt8).toNat : Int) = 44 from rfl] at hp
  obtain ⟨U00, hU00⟩ : ∃ U00 : Nat → Prop, U00 = fun k => U0 k ∨ k = b := ⟨_, rfl⟩
  have u00l : ∀ k, U00 k → k < b + 1 := fun k h => by rw [hU00] at h; rcases h with h | h; (have := hU0 k h; omega); omega
  have u00b : U00 b := by rw [hU00]; exact .inr rfl
  have u00i : ∀ k, U0 k → U00 k := fun k h => by rw [hU00]; exact .inl h
  have u00o : ∀ k, U00 k → U0 k ∨ k = b := fun k h => by rw [hU00] at h; exact h
  clear hU00
  have hcapE : ∀ k, capP (b + 1 + 1) (b + 1 + 1 + 1) k → k < W2.heap.size := fun k h => by rcases h with h | h <;> omega
  obtain ⟨ps, hps⟩ : ∃ ps, Ac.sp 44 false s = ps := ⟨_, rfl⟩
  have hpl : ps.length ≤ 1000001 := by have := Ac.sp_len (c := 44) (by decide) false s; rw [hps] at this; omega
  obtain ⟨its, hits⟩ : ∃ its, Ac.items s = its := ⟨_, rfl⟩
  have hitF : its = (ps.map trimL).filter fun t => !t.isEmpty := by rw [← hits, ← hps]; rfl
  have hJ0 := Lib.hid (hJ U0 (extU U00 (b + 1) (capP (b + 1 + 1) (b + 1 + 1 + 1))) 0 W W2 h0 (.of_below hBW2 (fun k h => by
    rcases h with h | h | h | h
    · exact (u00o k h).imp id (fun e => by omega)
    all_goals (right; omega)) (fun k h => by rcases h with h | h | h | h; (have := u00l k h; omega); all_goals omega)))
  have kb2 := Lib.hid (kb.below hB2 kb.lt)
  have kn2 := Lib.hid (kn.below hB2 kn.lt)
  have hp' := Lib.hid hp
  have hY' := Lib.hid hY
  have hJ' := Lib.hid hJ
  have hJx' := Lib.hid hJx
  have hJp' := Lib.hid hJp
  have u00l' := Lib.hid u00l
  have u00b' := Lib.hid u00b
  have hcapE' := Lib.hid hcapE
  have hend : ∀ (e : Ending) (V : World) (U : Nat → Prop), (∀ k, U k → capP (b + 1 + 1) (b + 1 + 1 + 1) k ∨ W2.heap.size ≤ k) → (∀ k, U k → k < V.heap.size) → b + 4 ≤ V.heap.size → (((∃ v, e = .returned v) ∧ (J (extU U00 (b + 1) U) its.length V ∨ ∃ j, j < its.length ∧ Jx (extU U00 (b + 1) U) (j + 1) V)) ∨ (e = .panicked D ∧ Jp (extU U00 (b + 1) U) V)) →
      ∃ U, (∀ k, U0 k → U k) ∧ (∀ k, U k → U0 k ∨ W.heap.size ≤ k) ∧ (∀ k, U k → k < V.heap.size) ∧ (((∃ v, e = .returned v) ∧ (J U its.length V ∨ ∃ j, j < its.length ∧ Jx U (j + 1) V)) ∨ (e = .panicked D ∧ Jp U V)) :=
    fun e V U h1 h2 h3 h4 => ⟨extU U00 (b + 1) U, fun k h => .inl (u00i k h), fun k h => by
      rcases h with h | h | h
      · exact (u00o k h).imp id (fun e => by omega)
      · right; omega
      · rcases h1 k h with (h | h) | h <;> (right; omega), fun k h => by
      rcases h with h | h | h
      · have := u00l'.out k h; omega
      · omega
      · exact h2 k h, h4⟩
  have hend' := Lib.hid hend
  have hseq := Lib.hid (each1_seq (n + 1) s 44 (by decide) hs (b + 1 + 1) (b + 1 + 1 + 1) W2 hp1 hp2)
  rw [hps] at hseq
  rw [hits] at hY' ⊢
  have c1 := k1b.cell 0
  have hitF' := Lib.hid hitF
  clear k1b hp hp1 hp2 hY hJ hJx hJp hU0 h0 hend hcapE hcap hBW2 hB2 hB1 kb hW2 k1 hW hps hits hitF u00l u00b u00i u00o kn hB01 hBa kba knb
  refine calls_of_wpK Tryz.func213 rfl ?_
  simp only [Tryz.ntmps213, List.size_toArray, List.length_cons, List.length_nil, Nat.reduceAdd, Nat.reduceSub, Array.replicate_succ, Array.replicate_zero, List.push_toArray, List.append_toArray, List.nil_append, List.cons_append]
  refine wpK_after ?_
  go_wp2
  try rw [hWa]
  refine wpK_after ?_
  go_wp2
  try rw [hWb]
  try rw [hW1]
  clear cnb fnb
  refine wpK_after ?_
  go_wp2_with (go_at_call 214; (with_reducible refine Calls.mono hp'.out ?_); rintro e w3 ⟨rfl, hw3⟩; obtain rfl := hw3.symm)
  refine wpK_block ?_
  refine wpK_range (n := n) (gf := 222) (lb := #[.pointer (some ⟨b + 1 + 1, 0, none⟩), .pointer (some ⟨b + 1 + 1 + 1, 0, none⟩)]) rfl (enters_of Tryz.func222 (by kernel_rfl) rfl)
    hseq.out (Below.refl _ _) hcapE'.out (fun _ => rfl)
    (fun U j V => J (extU U00 (b + 1) U) (cntI (ps.map trimL) j) V ∧ Has V b 168 #[.func (.yield l) #[] #[]] ∧ Has V (b + 1) 3 #[.int .i64 (cntI (ps.map trimL) j : Int)] ∧ ¬ U b ∧ ¬ U (b + 1) ∧ b + 4 ≤ V.heap.size)
    (fun c U j V => c = .ret ∧ (∃ i, i < its.length ∧ Jx (extU U00 (b + 1) U) (i + 1) V) ∧ ¬ U b ∧ ¬ U (b + 1) ∧ b + 4 ≤ V.heap.size) D
    (fun U V => Jp (extU U00 (b + 1) U) V ∧ ¬ U b ∧ ¬ U (b + 1) ∧ b + 4 ≤ V.heap.size)
    ?i1 ?i2 ?i3 ⟨hJ0.out, kb2.out, kn2.out, fun h => by rcases h with h | h <;> omega, fun h => by rcases h with h | h <;> omega, by omega⟩ ?a1 ?assign ?body ?done ?left ?gave
  case i1 =>
    rintro U U' j X Y ⟨h1, h2, hn, h3, h5, h4⟩ ht
    exact ⟨hJ'.out _ _ _ _ _ h1 (ht.ext (fun k hk => by have := u00l'.out k hk; omega) (by omega)), ht.has h3 h2, ht.has h5 hn, ht.out h3 (by omega), ht.out h5 (by omega), by have := ht.size; omega⟩
  case i2 =>
    rintro c U U' j X Y ⟨rfl, ⟨i, hi, h1⟩, h3, h5, h4⟩ ht
    exact ⟨rfl, ⟨i, hi, hJx'.out _ _ _ _ _ h1 (ht.ext (fun k hk => by have := u00l'.out k hk; omega) (by omega))⟩, ht.out h3 (by omega), ht.out h5 (by omega), by have := ht.size; omega⟩
  case i3 =>
    rintro U U' X Y ⟨h1, h3, h5, h4⟩ ht
    exact ⟨hJp'.out _ _ _ _ h1 (ht.ext (fun k hk => by have := u00l'.out k hk; omega) (by omega)), ht.out h3 (by omega), ht.out h5 (by omega), by have := ht.size; omega⟩
  case assign =>
    intro l2 x V K hK
    have hK' := Lib.hid hK
    clear hK
    dsimp only [encEa]
    gi_wp2
    exact hK'.out
  case body =>
    rintro l2 U j V hUl ⟨h1, h2, hn, h3, h5, h4⟩ hj
    have hjm : j < (ps.map trimL).length := by rw [List.length_map]; exact hj
    obtain ⟨p, hpj⟩ : ∃ p, trimL (ps[j]?.getD []) = p := ⟨_, rfl⟩
    have hpd : (ps.map trimL)[j] = p := by rw [List.getElem_map, ← hpj, List.getElem?_eq_getElem hj]; rfl
    try rw [hpj]
    have hm1 := cntI_le (ps.map trimL) j
    have hno := fun h : p = [] => cntI_no hjm (hpd.trans h)
    have hyes : p ≠ [] → cntI (ps.map trimL) (j + 1) = cntI (ps.map trimL) j + 1 ∧ cntI (ps.map trimL) j < its.length ∧ its.getD (cntI (ps.map trimL) j) [] = p := fun h => by
      obtain ⟨q1, q2, q3⟩ := cntI_yes hjm (fun e => h (hpd.symm.trans e))
      rw [← hitF'.out] at q2 q3
      exact ⟨q1, q2, q3.trans hpd⟩
    rw [List.length_map] at hm1
    obtain ⟨m, hm⟩ : ∃ m, cntI (ps.map trimL) j = m := ⟨_, rfl⟩
    obtain ⟨m1, hm1e⟩ : ∃ m, cntI (ps.map trimL) (j + 1) = m := ⟨_, rfl⟩
    rw [hm, hm1e] at hyes hno
    rw [hm] at h1 hn hm1
    have hm1e' := Lib.hid hm1e
    have hkU : ∀ {V3 : World}, KeptU (extU U00 (b + 1) U) V V3 → KeptU U V V3 := fun h => h.mono (fun k hk => .inr (.inr hk))
    have hext : ∀ k, extU U00 (b + 1) U k → k < V.heap.size := fun k h => by
      rcases h with h | h | h
      · have := u00l'.out k h; omega
      · omega
      · exact hUl k h
    have d0 := h2.cell 0
    have d1 := hn.cell 0
    have f1 := hn.free 0
    by_cases hp0 : p = []
    · have hmm := hno hp0
      subst hp0
      have h1' := Lib.hid h1
      have h2' := Lib.hid h2
      have hn' := Lib.hid hn
      clear hyes hno hm hm1e h1 h2 hn hpj hpd
      gi_wp2
      exact ⟨⟨Nat.le_refl _, fun _ _ => rfl⟩, by rw [hm1e'.out, hmm]; exact h1'.out, h2'.out, by rw [hm1e'.out, hmm]; exact hn'.out, h3, h5, h4⟩
    · obtain ⟨hmm, hlt, hget⟩ := hyes hp0
      obtain ⟨fn, tmps, assign, body, hy, hR⟩ := hY'.out _ m V h1 hlt hext
      have hy' : (Instr.yield l #[.int .i64 (m : Int), .string ⟨p.toArray⟩]).run Tryz.prog V = .ok (Next.round l fn tmps assign body) V := by
        unfold encIt at hy
        rw [hget] at hy
        exact hy
      have hR' := Lib.hid (round_any (m' := n - 1) (l' := l2) hR)
      have hne : (p == []) = false := by cases p with
        | nil => exact absurd rfl hp0
        | cons a b => rfl
      have hne2 : p.isEmpty = false := by cases p with
        | nil => exact absurd rfl hp0
        | cons a b => rfl
      have hlt' := Lib.hid hlt
      have h2' := Lib.hid h2
      have hn' := Lib.hid hn
      have u00b2 : U00 b := u00b'.out
      clear hyes hno hm hm1e h1 h2 hn hpj hpd hy hR hget
      gi_wp2
      refine hR'.out.mono ?_
      rintro e V3 ⟨hk3, (⟨rfl, hj3⟩ | ⟨rfl, hj3⟩ | ⟨rfl, hj3⟩)⟩
      · have b3 := Lib.hid (hk3.has (.inl u00b2) h2'.out)
        have n3 := hk3.has (.inr (.inl rfl)) hn'.out
        have e1 := n3.cell 0
        have e2 := n3.free 0
        have z3 := hk3.size
        have hk3' := Lib.hid hk3
        have n3' := Lib.hid n3
        have hj3' := Lib.hid hj3
        clear hk3 hj3 n3 hkU
        gi_wp2
        have hb1 : (b + 1) ≠ b := by omega
        refine ⟨(hk3'.out.mono (fun k hk => .inr (.inr hk))).set (p := ⟨b + 1, 0, none⟩) h5 _, ?_, ?_, ?_, h3, h5, by simp [World.setCell]; omega⟩
        · rw [hm1e'.out, hmm]
          refine hJ'.out _ _ _ _ _ hj3'.out ⟨rfl, rfl, rfl, by simp [World.setCell], fun k _ hn => Below.heap_setCell _ _ _ k (fun e => hn (.inr (.inl e))), fun k h => .inl h, fun k h => by have := hext k h; simp [World.setCell]; omega⟩
        · exact (Below.heap_setCell _ _ _ b (by show b ≠ b + 1; omega)).trans b3.out
        · have := n3'.out.put 0 (.int .i64 ((m : Int) + 1))
          rw [hm1e'.out, hmm, show ((m + 1 : Nat) : Int) = (m : Int) + 1 by omega]
          simpa using this
      · have hk3' := Lib.hid hk3
        have hj3' := Lib.hid hj3
        have z3 := hk3.size
        clear hk3 hj3 hkU
        gi_wp2
        exact ⟨hk3'.out.mono (fun k hk => .inr (.inr hk)), rfl, ⟨m, hlt'.out, hj3'.out⟩, h3, h5, by omega⟩
      · exact ⟨rfl, rfl, hkU hk3, hj3, h3, h5, by have := hk3.size; omega⟩
  case done =>
    rintro U d V hd hUd hU1 hU2 hUl ⟨h1, h2, hn, h3, h5, h4⟩ hk
    have ht := collected_out hUd hk hUl
    have hN : cntI (ps.map trimL) ps.length = its.length := by rw [hitF'.out]; unfold cntI; rw [List.take_of_length_le (by rw [List.length_map]; omega)]
    rw [hN] at h1
    refine ⟨by simp, .inl ⟨_, _, rfl, run_takeDeferred hk, ?_⟩⟩
    refine ⟨.tuple #[], results_none rfl _ _ _, hend'.out _ _ U hU2 ht.lt (by have := ht.size; omega) (.inl ⟨⟨_, rfl⟩, .inl (hJ'.out _ _ _ _ _ h1 (ht.ext (fun k hk => by have := u00l'.out k hk; omega) (by omega)))⟩)⟩
  case left =>
    rintro c U d j V hd hUd hU1 hU2 hUl hj ⟨rfl, ⟨i, hi, h1⟩, h3, h5, h4⟩ hk
    have ht := collected_out hUd hk hUl
    refine wpK_of (wp_ret ?_)
    refine ⟨by simp, .inl ⟨_, _, rfl, run_takeDeferred hk, ?_⟩⟩
    refine ⟨.tuple #[], results_none rfl _ _ _, hend'.out _ _ U hU2 ht.lt (by have := ht.size; omega) (.inl ⟨⟨_, rfl⟩, .inr ⟨i, hi, hJx'.out _ _ _ _ _ h1 (ht.ext (fun k hk => by have := u00l'.out k hk; omega) (by omega))⟩⟩)⟩
  case gave =>
    rintro U d V hd hUd hU2 hUl ⟨h1, h3, h5, h4⟩ hk
    have ht := collected_out hUd hk hUl
    refine ⟨by simp, .inl ⟨_, _, rfl, run_takeDeferred hk, ?_⟩⟩
    exact hend'.out _ _ U hU2 ht.lt (by have := ht.size; omega) (.inr ⟨rfl, hJp'.out _ _ _ _ h1 (ht.ext (fun k hk => by have := u00l'.out k hk; omega) (by omega))⟩)
end Go.Proofs.YtbmemkbfignlaaaGreatDoor

namespace Go.Proofs.YtbmemkbfignlaaaGreatDoor
open Go.RowKit Go.Shelf
attribute [local go_sem] Oper.semAt_some

/-! ## Lists of one's own that a round makes longer -/
theorem wpListIn_append_at {F : Fence} {n : Nat} {P : Program} (w : World) {ops : Array Oper} {rest : List Oper} {o : Oper} {a : Act} {Q : Exit → Act → World → Prop}
    (hg : o.guard = none) (s x : Operand) (t : TypeId) (hop : o.op = Op.call { callee := Callee.builtin Builtin.append, args := #[s, x], argTypes := #[t, t] })
    (base : Nat) (e : TypeId) (i : TypeInfo) (z : Value) (size bytes : Nat) (h1 : P.underlying t = some (.slice e)) (h2 : P.info? e = some i) (h3 : i.zero = some z) (h4 : i.size = size) (h5 : i.bytes = bytes) (h6 : z.cells.size = size) (h7 : 0 < size)
    (v : Value) (k : Nat) (xs : List Value) (hs : a.eval s = v) (hown : w.ownsRow base e size v k xs) (ad : Addr) (m c : Nat) (news : List Value) (hx : a.eval x = .slice (some ad) m c) (hn : news.length = m * size)
    (hc : ∀ j u, news[j]? = some u → w.cell? (ad.add j) = some u) (h1c : ∀ u ∈ news, u.oneCell' = true) (b1 : k + m ≤ maxLen) (b2 : (k + m) * bytes ≤ 140737488355328) (b3 : base ≤ w.heap.size)
    (hK : ∀ v' w', w'.ownsRow base e size v' (k + m) (xs ++ news) → w.grownBy w' v.ownBlock → (v'.ownBlock = v.ownBlock ∨ v'.ownBlock = some w.heap.size) → wpListIn F n P ops Q rest (a.put o.dst v') w') :
    wpListIn F n P ops Q (o :: rest) a w := by
  refine wpListIn_plain hg fun K hK' => ?_
  obtain ⟨v', w', hrun, r1, r2, _, r3⟩ := run_append_own_at (P := P) w base t o.type e i z size bytes h1 h2 h3 h4 h5 h6 h7 v k xs hown ad m c news hn hc h1c b1 b2 b3
  unfold Oper.wpIn
  refine ⟨?_, ?_⟩
  · simp [Oper.about, hop, resolve, Target.leads, Sem.run_pure]
  · rw [Oper.semAt_plain F _ _ (by rw [hop]; intro c hc'; cases hc')]
    simp [execOp, hop, resolve, invoke, builtin, hs, hx, hrun, Result.andThen]
    exact hK' _ _ (hK v' w' r1 r2 r3)
theorem addr0 (k j : Nat) : (⟨k, 0, none⟩ : Addr).add j = ⟨k, j, none⟩ := by unfold Addr.add; split <;> simp_all
theorem addrO (k o j : Nat) : (⟨k, o, none⟩ : Addr).add j = ⟨k, o + j, none⟩ := by unfold Addr.add; split <;> simp_all
theorem strsIn_append {F : Fence} {n : Nat} {w : World} {ops : Array Oper} {rest : List Oper} {o : Oper} {a : Act} {Q : Exit → Act → World → Prop} {n0 : Nat} {v : Value} {l : List (List UInt8)} (hgd : o.guard = none) (s x : Operand) (ho : o.op = .call { callee := .builtin .append, args := #[s, x], argTypes := #[29, 29] }) (hsv : a.eval s = v) (hv : Strs w n0 v l)
    (k : Nat) (t : List UInt8) (hxv : a.eval x = .slice (some ⟨k, 0, none⟩) 1 1) (hx : Has w k 9 #[.string ⟨t.toArray⟩]) (hs : l.length + 1 ≤ 2000000) (hn : n0 ≤ w.heap.size)
    (h : ∀ v' w', Strs w' n0 v' (l ++ [t]) → w.grownBy w' v.ownBlock → (v'.ownBlock = v.ownBlock ∨ v'.ownBlock = some w.heap.size) → wpListIn F n Tryz.prog ops Q rest (a.put o.dst v') w') : wpListIn F n Tryz.prog ops Q (o :: rest) a w := by
  obtain ⟨i, hi, hz, hz1, hz2⟩ := info_str
  refine wpListIn_append_at w hgd s x 29 ho n0 9 i (.string ⟨#[]⟩) 1 16 Tryz.underlying29 hi hz hz1 hz2 rfl (by decide) v l.length (strsC l) hsv hv ⟨k, 0, none⟩ 1 1 [.string ⟨t.toArray⟩] hxv rfl (fun j u hu => ?_) (by intro u hu; rw [List.mem_singleton.1 hu]; rfl) (by simp only [maxLen]; omega) (by omega) hn (fun v' w' h1 h2 h3 => h v' w' ?_ h2 h3)
  · rw [addr0, hx.cell]
    simpa using hu
  · unfold Strs
    rw [List.length_append, List.length_singleton, show strsC (l ++ [t]) = strsC l ++ [.string ⟨t.toArray⟩] by simp [strsC]]
    exact h1
theorem strs_kept {W W' : World} {n0 : Nat} {v : Value} {l : List (List UInt8)} (h : Strs W n0 v l) (k : ∀ g, v.ownBlock = some g → W'.heap[g]? = W.heap[g]?) : Strs W' n0 v l := by
  refine ⟨h.1, ?_⟩
  rcases h.2 with h | ⟨g, cap, cur, rfl, hb, hg, r⟩
  · exact .inl h
  · exact .inr ⟨g, cap, cur, rfl, hb, (k g rfl).trans hg, r⟩
/-- A list whose texts lie in memory below a block. -/
theorem strs_txB {W : World} {n0 B : Nat} {v : Value} {l : List (List UInt8)} (h : Strs W n0 v l) (hB : W.heap.size ≤ B) (h0 : 0 < l.length) : ∃ g c, v = .slice (some ⟨g, 0, none⟩) l.length c ∧ l.length ≤ c ∧ c ≤ maxLen ∧ g < B ∧ g < W.heap.size ∧ ∀ (i : Nat) (x : List UInt8), l[i]? = some x → W.cell? ⟨g, i, none⟩ = some (.string ⟨x.toArray⟩) := by
  have hh := h
  rcases h.2 with ⟨rfl, h1⟩ | ⟨g, cap, cur, rfl, hb, hg, hnc, hcm, _⟩
  · omega
  · have hlt : g < W.heap.size := (Array.getElem?_eq_some_iff.1 hg).1
    refine ⟨g, cap, rfl, hnc, hcm, by omega, hlt, fun i x hx => ?_⟩
    have c := World.ownsRow.cells (g := g) hh rfl i (.string ⟨x.toArray⟩) (by unfold strsC; rw [List.getElem?_map, hx]; rfl)
    rwa [addr0] at c
/-! ### Ranges -/
def rgsC (l : List Ac.Rg) : List Value := l.flatMap rgC
theorem rgsC_append (l m : List Ac.Rg) : rgsC (l ++ m) = rgsC l ++ rgsC m := by simp [rgsC]
theorem rgsC_one (l : List Ac.Rg) : ∀ u ∈ rgsC l, u.oneCell' = true := by
  intro u hu
  obtain ⟨x, _, hu⟩ := List.mem_flatMap.1 hu
  simp only [rgC, List.mem_cons, List.not_mem_nil, or_false] at hu
  rcases hu with rfl | rfl | rfl | rfl <;> rfl
theorem rgsC_get : ∀ (l : List Ac.Rg) (i : Nat) (r : Ac.Rg), l[i]? = some r → (rgsC l)[i * 4]? = some (.string ⟨r.ty.toArray⟩) ∧ (rgsC l)[i * 4 + 1]? = some (.string ⟨r.sub.toArray⟩) ∧ (rgsC l)[i * 4 + 2]? = some (.int .i64 (r.params : Int)) ∧ (rgsC l)[i * 4 + 3]? = some (.int .i64 (r.quality : Int))
  | [], i, x, h => by simp at h
  | y :: l, 0, x, h => by
    obtain rfl : y = x := by simpa using h
    exact ⟨rfl, rfl, rfl, rfl⟩
  | y :: l, i + 1, x, h => by
    have := rgsC_get l i x (by simpa using h)
    have e : ∀ n, (rgsC (y :: l))[n + 1 + 1 + 1 + 1]? = (rgsC l)[n]? := fun n => rfl
    rw [show (i + 1) * 4 = i * 4 + 1 + 1 + 1 + 1 by omega, show i * 4 + 1 + 1 + 1 + 1 + 1 = (i * 4 + 1) + 1 + 1 + 1 + 1 by omega, show i * 4 + 1 + 1 + 1 + 1 + 2 = (i * 4 + 2) + 1 + 1 + 1 + 1 by omega, show i * 4 + 1 + 1 + 1 + 1 + 3 = (i * 4 + 3) + 1 + 1 + 1 + 1 by omega, e, e, e, e]
    exact this
def RgO (W : World) (n0 : Nat) (v : Value) (l : List Ac.Rg) : Prop := W.ownsRow n0 116 4 v l.length (rgsC l)
theorem rgO_nil (W : World) (n0 : Nat) : RgO W n0 (.slice none 0 0) [] := ⟨rfl, .inl ⟨rfl, rfl⟩⟩
theorem RgO.rgs {W : World} {n0 : Nat} {v : Value} {l : List Ac.Rg} (h : RgO W n0 v l) : ∃ A c, v = .slice A l.length c ∧ Rgs W A l := by
  have hh := h
  rcases h.2 with ⟨rfl, h0⟩ | ⟨g, cap, cur, rfl, hb, hg, _⟩
  · exact ⟨none, 0, by rw [h0], fun hl => by omega⟩
  · refine ⟨_, cap, rfl, fun _ => ⟨g, 0, rfl, (Array.getElem?_eq_some_iff.1 hg).1, fun i x hx => ?_⟩⟩
    have c := fun j u hu => World.ownsRow.cells (g := g) hh rfl j u hu
    simp only [addr0] at c
    obtain ⟨h1, h2, h3, h4⟩ := rgsC_get l i x hx
    simp only [Nat.zero_add]
    exact ⟨c _ _ h1, c _ _ h2, c _ _ h3, c _ _ h4⟩
theorem RgO.own {W : World} {n0 : Nat} {v : Value} {l : List Ac.Rg} (h : RgO W n0 v l) : ∀ g, v.ownBlock = some g → n0 ≤ g ∧ ∃ cs, Has W g 116 cs := by
  intro g hg
  rcases h.2 with ⟨rfl, _⟩ | ⟨g', cap, cur, rfl, hb, hh, r⟩
  · cases hg
  · obtain rfl : g' = g := by simpa [Value.ownBlock] using hg
    exact ⟨hb, cur, hh⟩
theorem RgO.kept {W W' : World} {n0 : Nat} {v : Value} {l : List Ac.Rg} (h : RgO W n0 v l) (k : ∀ g, v.ownBlock = some g → W'.heap[g]? = W.heap[g]?) : RgO W' n0 v l := by
  refine ⟨h.1, ?_⟩
  rcases h.2 with h | ⟨g, cap, cur, rfl, hb, hg, r⟩
  · exact .inl h
  · exact .inr ⟨g, cap, cur, rfl, hb, (k g rfl).trans hg, r⟩
theorem RgO.below {W W' : World} {n0 : Nat} {v : Value} {l : List Ac.Rg} (h : RgO W n0 v l) (hb : Below W.heap.size W W') : RgO W' n0 v l := h.kept fun g hg => hb.block g (h.own g hg).2.choose_spec.lt
theorem infoRange : (Tryz.prog.info? 116).map (fun i => (i.zero, i.size, i.bytes)) = some (some (.agg #[.string ⟨#[]⟩, .string ⟨#[]⟩, .int .i64 0, .int .i64 0]), 4, 48) := by kernel_rfl
theorem info_range : ∃ i, Tryz.prog.info? 116 = some i ∧ i.zero = some (.agg #[.string ⟨#[]⟩, .string ⟨#[]⟩, .int .i64 0, .int .i64 0]) ∧ i.size = 4 ∧ i.bytes = 48 := by
  have h := infoRange
  cases hi : Tryz.prog.info? 116 with
  | none => rw [hi] at h; cases h
  | some i =>
    rw [hi] at h
    simp at h
    exact ⟨i, rfl, h⟩
theorem rgsIn_append {F : Fence} {n : Nat} {w : World} {ops : Array Oper} {rest : List Oper} {o : Oper} {a : Act} {Q : Exit → Act → World → Prop} {n0 : Nat} {v : Value} {l : List Ac.Rg} (hgd : o.guard = none) (s x : Operand) (ho : o.op = .call { callee := .builtin .append, args := #[s, x], argTypes := #[111, 111] }) (hsv : a.eval s = v) (hv : RgO w n0 v l)
    (k : Nat) (r : Ac.Rg) (hxv : a.eval x = .slice (some ⟨k, 0, none⟩) 1 1) (hx : Has w k 116 (rgC r).toArray) (hs : l.length + 1 ≤ 2000000) (hn : n0 ≤ w.heap.size)
    (h : ∀ v' w', RgO w' n0 v' (l ++ [r]) → w.grownBy w' v.ownBlock → (v'.ownBlock = v.ownBlock ∨ v'.ownBlock = some w.heap.size) → wpListIn F n Tryz.prog ops Q rest (a.put o.dst v') w') : wpListIn F n Tryz.prog ops Q (o :: rest) a w := by
  obtain ⟨i, hi, hz, hz1, hz2⟩ := info_range
  refine wpListIn_append_at w hgd s x 111 ho n0 116 i _ 4 48 Tryz.underlying111 hi hz hz1 hz2 rfl (by decide) v l.length (rgsC l) hsv hv ⟨k, 0, none⟩ 1 1 (rgsC [r]) hxv rfl (fun j u hu => ?_) (rgsC_one _) (by simp only [maxLen]; omega) (by omega) hn (fun v' w' h1 h2 h3 => h v' w' ?_ h2 h3)
  · rw [addr0, hx.cell]
    simpa [rgsC] using hu
  · unfold RgO
    rw [List.length_append, List.length_singleton, rgsC_append]
    exact h1
end Go.Proofs.YtbmemkbfignlaaaGreatDoor

namespace Go.Proofs.YtbmemkbfignlaaaGreatDoor
open Go.RowKit
attribute [local go_sem] Oper.semAt_some

/-! ## The document's Right, Path, Text -/
/-- How great a target is. -/
structure FewT (t : TgL) : Prop where
  parts : t.1.length ≤ 1000
  pairs : t.2.length ≤ 1000
  part : ∀ x ∈ t.1, x.length ≤ 1000
  pair : ∀ q ∈ t.2, q.1.length ≤ 1000 ∧ q.2.length ≤ 1000
theorem box_tg (w : World) (A1 A2 : Option Addr) (n1 c1 n2 c2 : Nat) : Has (w.alloc (.cells #[.slice A1 n1 c1, .slice A2 n2 c2] 32)) w.heap.size 32 #[.slice A1 n1 c1, .slice A2 n2 c2] := Has.new w _ _
/-- The path as it is. -/
def pathP (p : List (List UInt8)) : List UInt8 := p.flatMap fun x => 47 :: x
theorem pathP_snoc (p : List (List UInt8)) (x : List UInt8) : pathP (p ++ [x]) = pathP p ++ 47 :: x := by unfold pathP; simp
theorem pathTx_snoc (p : List (List UInt8)) (x : List UInt8) : pathTx (p ++ [x]) = pathTx p ++ 47 :: encL x := by unfold pathTx; simp
theorem flat_len {α : Type} (f : α → List UInt8) (k : Nat) : ∀ l : List α, (∀ x ∈ l, (f x).length ≤ k) → (l.flatMap f).length ≤ k * l.length
  | [], _ => by simp
  | x :: r, h => by
    have h1 := flat_len f k r (fun y hy => h y (List.mem_cons_of_mem _ hy))
    have h2 := h x List.mem_cons_self
    rw [List.flatMap_cons, List.length_append, List.length_cons, Nat.mul_succ]
    omega
theorem cat2 (l x : List UInt8) (c : UInt8) : (⟨l.toArray⟩ : ByteArray) ++ ⟨#[c]⟩ ++ ⟨x.toArray⟩ = ⟨(l ++ c :: x).toArray⟩ := by
  refine (show _ = _ from ?_ : (⟨l.toArray⟩ : ByteArray) ++ ⟨[c].toArray⟩ ++ ⟨x.toArray⟩ = _)
  rw [app_str, app_str]
  simp
set_option maxRecDepth 100000 in
set_option maxHeartbeats 4000000 in
theorem refPath_any (A1 A2 : Option Addr) (c1 c2 : Nat) (t : TgL) (w : World) (ht : FewT t) (h1 : Txs w A1 t.1) : Calls Tryz.prog 47 #[.agg #[.slice A1 t.1.length c1, .slice A2 t.2.length c2]] w (StrR (pathP t.1) w) := by
  unfold StrR
  obtain ⟨p, qs⟩ := t
  obtain ⟨hp, hq, hpl, _⟩ := ht
  simp only at *
  have hk := box_tg w A1 A2 p.length c1 qs.length c2
  have hal := Lib.hid ((Below.refl w.heap.size w).alloc (Nat.le_refl _) (.cells #[.slice A1 p.length c1, .slice A2 qs.length c2] 32))
  obtain ⟨w1, hw1⟩ : ∃ X, w.alloc (.cells #[.slice A1 p.length c1, .slice A2 qs.length c2] 32) = X := ⟨_, rfl⟩
  rw [hw1] at hk hal
  have hw1' := Lib.hid hw1
  have hx1 := Lib.hid (h1.below hal.out)
  have k0 : w1.cell? ⟨w.heap.size, 0, none⟩ = some (.slice A1 p.length c1) := hk.cell 0
  have hpl' := Lib.hid hpl
  clear hw1 h1 hk hpl
  go_enter Tryz.func47, Tryz.ntmps47
  go_upto_region 1 with (fail)
  rw [hw1'.out]
  go_wp2
  go_loopw [3, 4] (fun v x W => ∃ i : Nat, i ≤ p.length ∧ x = .int .i64 (i : Int) ∧ v = .string ⟨(pathP (p.take i)).toArray⟩ ∧ W = w1) (fun _ x _ => p.length - (intOf x).toNat)
  case atStart => exact ⟨0, Nat.zero_le _, rfl, rfl, rfl⟩
  case round =>
    obtain ⟨i, hil, rfl, rfl, hW⟩ := hrel
    obtain rfl := hW
    by_cases hlt : i < p.length
    · have hltI : (i : Int) < (p.length : Int) := by omega
      obtain ⟨b, o, hA, _, hc⟩ := hx1.out (by omega)
      subst hA
      have ck := hc i _ (List.getElem?_eq_getElem hlt)
      have hyl := hpl'.out _ (List.getElem_mem hlt)
      have hen := Lib.hid (show pathP (p.take (i + 1)) = pathP (p.take i) ++ 47 :: p[i] by rw [take_next p hlt, pathP_snoc])
      have hel := flat_len (fun x => 47 :: x) 1001 (p.take i) (fun x hx => by have := hpl'.out x (List.mem_of_mem_take hx); simp; omega)
      rw [List.length_take] at hel
      have hel : (pathP (p.take i)).length ≤ 1001000 := by unfold pathP; omega
      clear hc
      generalize p[i] = y at *
      generalize pathP (p.take i) = el at *
      go_wp2
      exact ⟨⟨i + 1, by omega, by go_num, by rw [hen.out, cat2], trivial⟩, by simp [intOf]; omega⟩
    · obtain rfl : i = p.length := by omega
      rw [List.take_length] at *
      go_wp2
      go_ret
      exact ⟨rfl, hal.out⟩
end Go.Proofs.YtbmemkbfignlaaaGreatDoor

namespace Go.Proofs.YtbmemkbfignlaaaGreatDoor

/-! ## A look at a head: mathematics -/
namespace Rr
def getL : List UInt8 := [71, 69, 84]
def protoL : List UInt8 := [72, 84, 84, 80, 47]
def newerL : List UInt8 := [72, 84, 84, 80, 47, 49, 46, 49]
def olderL : List UInt8 := [72, 84, 84, 80, 47, 49, 46, 48]
def healthL : List UInt8 := [47, 104, 101, 97, 108, 116, 104]
def kindL : List UInt8 := [116, 101, 120, 116]
def subL : List UInt8 := [101, 118, 101, 110, 116, 45, 115, 116, 114, 101, 97, 109]
def hostL : List UInt8 := [104, 111, 115, 116]
def encL : List UInt8 := [116, 114, 97, 110, 115, 102, 101, 114, 45, 101, 110, 99, 111, 100, 105, 110, 103]
def lengL : List UInt8 := [99, 111, 110, 116, 101, 110, 116, 45, 108, 101, 110, 103, 116, 104]
def lidL : List UInt8 := [108, 97, 115, 116, 45, 101, 118, 101, 110, 116, 45, 105, 100]
def accL : List UInt8 := [97, 99, 99, 101, 112, 116]
def connL : List UInt8 := [99, 111, 110, 110, 101, 99, 116, 105, 111, 110]
def closeL : List UInt8 := [99, 108, 111, 115, 101]
def upstreamL : List UInt8 := [117, 112, 115, 116, 114, 101, 97, 109]
def streamL : List UInt8 := [116, 101, 120, 116, 47, 101, 118, 101, 110, 116, 45, 115, 116, 114, 101, 97, 109]
def preL : List UInt8 := [71, 69, 84, 32]
def postL : List UInt8 := [32, 72, 84, 84, 80, 47, 49, 46, 49]
def beginsB (s : List UInt8) : Bool := decide (s ≠ []) && !(s.head? == some 32)
def bytesB (s : List UInt8) : Bool := valueL s || valueL (trimL s)
def fieldB (q : PairL) : Bool := (tokenL q.1 && lowerL q.1 == q.1) && valueL q.2
/-- May a head be? -/
def headB (f : List UInt8) (l : List PairL) : Bool := (beginsB f && bytesB f) && l.all fieldB
def isName (name : List UInt8) (q : PairL) : Bool := lowerL q.1 == lowerL name
/-- The Values of the fields of a name. -/
def vals (name : List UInt8) (l : List PairL) : List (List UInt8) := (l.filter (isName name)).map Prod.snd
def joinL : List (List UInt8) → List UInt8
  | [] => []
  | [x] => x
  | x :: y :: r => x ++ [44, 32] ++ joinL (y :: r)
def digB (b : UInt8) : Bool := decide (48 ≤ b.toNat) && decide (b.toNat ≤ 57)
def verD (d : List UInt8) : Bool := match d with
  | [a, p, b] => (digB a && p == 46) && digB b
  | _ => false
def verB (s : List UInt8) : Bool := s.take 5 == protoL && verD (s.drop 5)
structure Lk where
  f : List UInt8
  l : List PairL
  method : List UInt8
  version : List UInt8
  t : TgL
  aims : Bool
def lkOf (f : List UInt8) (l : List PairL) : Lk := { f, l, method := Ac.tw 32 f, version := Ac.bh 32 (Ac.bh 32 f), t := (parseTg (Ac.tw 32 (Ac.bh 32 f))).getD ([], []), aims := (parseTg (Ac.tw 32 (Ac.bh 32 f))).isSome }
/-- What the statuses ask, in order. -/
def chk (L : Lk) : Nat → Bool
  | 0 => (!tokenL L.method || !L.aims) || !verB L.version
  | 1 => !(L.version == olderL) && decide ((vals hostL L.l).length ≠ 1)
  | 2 => decide (0 < (vals encL L.l).length)
  | 3 => decide (0 < (vals lengL L.l).length) && !(joinL (vals lengL L.l) == [48])
  | 4 => decide (1 < (vals lidL L.l).length)
  | 5 => !(L.version == newerL) && !(L.version == olderL)
  | 6 => !(L.method == getL)
  | 7 => !decide (0 < (Ac.quality (joinL (vals accL L.l)) kindL subL).getD 0) && !(pathP L.t.1 == healthL)
  | _ => true
def stat : Nat → Nat
  | 5 => 505
  | 6 => 405
  | 7 => 406
  | 8 => 200
  | _ => 400
def firstF (g : Nat → Bool) : Nat → Nat → Nat
  | j, 0 => j
  | j, k + 1 => if g j = true then j else firstF g (j + 1) k
def status (L : Lk) : Nat := stat (firstF (chk L) 0 8)
theorem firstF_at {g : Nat → Bool} : ∀ (k j x : Nat), j ≤ x → x < j + k → (∀ i, j ≤ i → i < x → g i = false) → g x = true → firstF g j k = x
  | 0, j, x, h1, h2, _, _ => by omega
  | k + 1, j, x, h1, h2, h3, h4 => by
    unfold firstF
    rcases Nat.lt_or_ge j x with h | h
    · rw [h3 j (Nat.le_refl _) h, if_neg (by simp)]
      exact firstF_at k (j + 1) x h (by omega) (fun i hi => h3 i (by omega)) h4
    · obtain rfl : j = x := by omega
      rw [if_pos h4]
theorem firstF_end {g : Nat → Bool} : ∀ (k j : Nat), (∀ i, j ≤ i → i < j + k → g i = false) → firstF g j k = j + k
  | 0, j, _ => rfl
  | k + 1, j, h => by
    unfold firstF
    rw [h j (Nat.le_refl _) (by omega), if_neg (by simp), firstF_end k (j + 1) (fun i h1 h2 => h i (by omega) (by omega))]
    omega
theorem status_at {L : Lk} {x : Nat} (hx : x < 9) (h : ∀ i, i < x → chk L i = false) (h' : chk L x = true) : status L = stat x := by
  unfold status
  rcases Nat.lt_or_ge x 8 with h8 | h8
  · rw [firstF_at 8 0 x (Nat.zero_le _) (by omega) (fun i _ => h i) h']
  · obtain rfl : x = 8 := by omega
    rw [firstF_end 8 0 (fun i _ hi => h i (by omega))]
def closes (L : Lk) : Bool := (L.version == olderL) || (itemsL (joinL (vals connL L.l))).any (fun i => lowerL i == lowerL closeL)
/-! ### What Encode tells -/
def encF (path : List UInt8) : List UInt8 := preL ++ path ++ postL
def encFl (id : List UInt8) : List PairL := if id = [] then [(hostL, upstreamL), (accL, streamL)] else [(hostL, upstreamL), (accL, streamL), (lidL, id)]
theorem tw_at {k : UInt8} : ∀ {a : List UInt8} (r : List UInt8), k ∉ a → Ac.tw k (a ++ k :: r) = a
  | [], r, _ => by simp [Ac.tw]
  | c :: a, r, h => by
    have hc : c ≠ k := fun e => h (by rw [e]; exact List.mem_cons_self)
    have ih := tw_at (a := a) r (fun hm => h (List.mem_cons_of_mem _ hm))
    unfold Ac.tw at ih ⊢
    rw [List.cons_append, List.takeWhile_cons, if_pos (by simpa using hc), ih]
theorem bh_at {k : UInt8} : ∀ {a : List UInt8} (r : List UInt8), k ∉ a → Ac.bh k (a ++ k :: r) = r
  | [], r, _ => by simp [Ac.bh]
  | c :: a, r, h => by
    have hc : c ≠ k := fun e => h (by rw [e]; exact List.mem_cons_self)
    have ih := bh_at (a := a) r (fun hm => h (List.mem_cons_of_mem _ hm))
    unfold Ac.bh at ih ⊢
    rw [List.cons_append, List.dropWhile_cons, if_pos (by simpa using hc), ih]
theorem parse_bytes {s : List UInt8} {t : TgL} (h : parseTg s = some t) : ∀ b ∈ s, 33 ≤ b.toNat ∧ b.toNat ≤ 126 := by
  intro b hb
  unfold parseTg at h
  split at h
  · rename_i hc
    have := List.all_eq_true.1 hc.2 b hb
    unfold okB at this
    simp at this
    exact ⟨this.1.1, this.1.2⟩
  · cases h
theorem parse_blank {s : List UInt8} {t : TgL} (h : parseTg s = some t) : (32 : UInt8) ∉ s := fun hm => by
  have := (parse_bytes h _ hm).1
  simp at this
theorem enc_look {path id : List UInt8} {t : TgL} (h : parseTg path = some t) : lkOf (encF path) (encFl id) = { f := encF path, l := encFl id, method := getL, version := newerL, t := t, aims := true } := by
  have e1 : encF path = getL ++ 32 :: (path ++ 32 :: newerL) := by simp [encF, preL, postL, getL, newerL]
  unfold lkOf
  rw [e1, tw_at (k := 32) _ (by decide), bh_at (k := 32) _ (by decide), tw_at (k := 32) _ (parse_blank h), bh_at (k := 32) _ (parse_blank h), h]
  rfl
theorem valB_of {b : UInt8} (h : 32 ≤ b.toNat ∧ b.toNat ≤ 126) : valB b = true := by
  have h1 : (32 : UInt8) ≤ b := UInt8.le_iff_toNat_le.2 h.1
  have h2 : b ≤ (126 : UInt8) := UInt8.le_iff_toNat_le.2 h.2
  simp [valB, h1, h2]
theorem valueL_mid {a m z : List UInt8} {x y : UInt8} (ha : a.all valB = true) (hm : m.all valB = true) (hz : z.all valB = true) (hx : blkB x = false) (hy : blkB y = false) (hvx : valB x = true) (hvy : valB y = true) : valueL (x :: (a ++ m ++ z ++ [y])) = true := by
  unfold valueL
  have h1 : trimL (x :: (a ++ m ++ z ++ [y])) = x :: (a ++ m ++ z ++ [y]) := by
    unfold trimL
    rw [dropL_no _ hx, ← List.cons_append, dropR_no _ hy]
  rw [h1]
  simp [ha, hm, hz, hvx, hvy, List.all_append] <;> simp_all
theorem enc_first {path : List UInt8} {t : TgL} (h : parseTg path = some t) : (beginsB (encF path) && bytesB (encF path)) = true := by
  have hv : valueL (encF path) = true := by
    have := valueL_mid (a := [69, 84, 32]) (m := path) (z := [32, 72, 84, 84, 80, 47, 49, 46]) (x := 71) (y := 49) (by decide) (by
      rw [List.all_eq_true]
      intro b hb
      have := parse_bytes h b hb
      exact valB_of ⟨by omega, this.2⟩) (by decide) (by decide) (by decide) (by decide) (by decide)
    have e : encF path = 71 :: ([69, 84, 32] ++ path ++ [32, 72, 84, 84, 80, 47, 49, 46] ++ [49]) := by simp [encF, preL, postL]
    rw [e]
    exact this
  have hb : beginsB (encF path) = true := by
    have e : encF path = 71 :: ([69, 84, 32] ++ path ++ postL) := by simp [encF, preL]
    rw [e]
    simp [beginsB]
  unfold bytesB
  rw [hv, hb]
  rfl
theorem enc_head {path id : List UInt8} {t : TgL} (h : parseTg path = some t) (hi : valueL id = true) : headB (encF path) (encFl id) = true := by
  unfold headB
  rw [enc_first h]
  unfold encFl
  have f1 : fieldB (hostL, upstreamL) = true := by decide
  have f2 : fieldB (accL, streamL) = true := by decide
  have f3 : fieldB (lidL, id) = true := by
    unfold fieldB
    show (tokenL lidL && lowerL lidL == lidL && valueL id) = true
    rw [hi]
    decide
  split <;> simp [f1, f2, f3]
theorem enc_vals (name id : List UInt8) : vals name (encFl id) = (if lowerL hostL = lowerL name then [upstreamL] else []) ++ (if lowerL accL = lowerL name then [streamL] else []) ++ (if id ≠ [] ∧ lowerL lidL = lowerL name then [id] else []) := by
  unfold vals encFl isName
  by_cases h1 : lowerL hostL = lowerL name <;> by_cases h2 : lowerL accL = lowerL name <;> by_cases h3 : lowerL lidL = lowerL name <;> by_cases h4 : id = [] <;> simp [h1, h2, h3, h4, List.filter_cons]
theorem vals_host (id : List UInt8) : vals hostL (encFl id) = [upstreamL] := by
  rw [enc_vals, if_pos rfl, if_neg (by decide), if_neg (fun h => absurd h.2 (by decide))]; rfl
theorem vals_acc (id : List UInt8) : vals accL (encFl id) = [streamL] := by
  rw [enc_vals, if_neg (by decide), if_pos rfl, if_neg (fun h => absurd h.2 (by decide))]; rfl
theorem vals_enc (id : List UInt8) : vals encL (encFl id) = [] := by
  rw [enc_vals, if_neg (by decide), if_neg (by decide), if_neg (fun h => absurd h.2 (by decide))]; rfl
theorem vals_leng (id : List UInt8) : vals lengL (encFl id) = [] := by
  rw [enc_vals, if_neg (by decide), if_neg (by decide), if_neg (fun h => absurd h.2 (by decide))]; rfl
theorem vals_conn (id : List UInt8) : vals connL (encFl id) = [] := by
  rw [enc_vals, if_neg (by decide), if_neg (by decide), if_neg (fun h => absurd h.2 (by decide))]; rfl
theorem vals_lid (id : List UInt8) : vals lidL (encFl id) = if id = [] then [] else [id] := by
  rw [enc_vals, if_neg (by decide), if_neg (by decide)]
  by_cases h : id = []
  · rw [if_pos h, if_neg (fun e => e.1 h)]; rfl
  · rw [if_neg h, if_pos ⟨h, rfl⟩]; rfl
theorem stream_taken : (Ac.quality streamL kindL subL).getD 0 = 1000 := by decide +kernel
theorem enc_status {path id : List UInt8} {t : TgL} (h : parseTg path = some t) : status (lkOf (encF path) (encFl id)) = 200 := by
  rw [enc_look h]
  refine (status_at (x := 8) (by omega) ?_ rfl).trans rfl
  intro i hi
  rcases (by omega : i = 0 ∨ i = 1 ∨ i = 2 ∨ i = 3 ∨ i = 4 ∨ i = 5 ∨ i = 6 ∨ i = 7) with rfl | rfl | rfl | rfl | rfl | rfl | rfl | rfl
  · show ((!tokenL getL || !true) || !verB newerL) = false
    decide
  · show (!(newerL == olderL) && decide ((vals hostL (encFl id)).length ≠ 1)) = false
    rw [vals_host]; decide
  · show decide (0 < (vals encL (encFl id)).length) = false
    rw [vals_enc]; decide
  · show (decide (0 < (vals lengL (encFl id)).length) && !(joinL (vals lengL (encFl id)) == [48])) = false
    rw [vals_leng]; decide
  · show decide (1 < (vals lidL (encFl id)).length) = false
    rw [vals_lid]
    split <;> simp
  · show (!(newerL == newerL) && !(newerL == olderL)) = false
    decide
  · show (!(getL == getL)) = false
    decide
  · show (!decide (0 < (Ac.quality (joinL (vals accL (encFl id))) kindL subL).getD 0) && !(pathP t.1 == healthL)) = false
    rw [vals_acc]
    show (!decide (0 < (Ac.quality streamL kindL subL).getD 0) && !(pathP t.1 == healthL)) = false
    rw [stream_taken]
    rfl
theorem enc_closes {path id : List UInt8} {t : TgL} (h : parseTg path = some t) : closes (lkOf (encF path) (encFl id)) = false := by
  rw [enc_look h]
  show ((newerL == olderL) || (itemsL (joinL (vals connL (encFl id)))).any (fun i => lowerL i == lowerL closeL)) = false
  rw [vals_conn]
  decide
end Rr
end Go.Proofs.YtbmemkbfignlaaaGreatDoor
