import Derived.Test.YthpohjafnljfhaaPk4
import Derived.Test.YthpohjafnljfhaaPk2
import Derived.Test.YthpohjafnljfhaaPk31
import Derived.Sort.BigQuietIn
import Derived.BigQuiet
import Derived.Deep.QuietTactic
namespace Go.Proofs.Ythpohjafnljfhaa
open Go.RowKit
attribute [local go_sem] Oper.semAt_some
attribute [local go_sem] wideF_fn wideF_depth wideF_round

/-! ## Token's Each, one by one -/
def encEa (ps : List (List UInt8)) (j : Nat) : Array Value := #[.int .i64 (j : Int), .string ⟨(trimL (ps.getD j [])).toArray⟩]
/-- An iterator's own blocks: what it was given, its box, and those of the iterator that it goes over. -/
def extU (U0 : Nat → Prop) (b : Nat) (U : Nat → Prop) : Nat → Prop := fun k => U0 k ∨ k = b ∨ U k
theorem TurnU.ext {U0 U U' : Nat → Prop} {b : Nat} {X Y : World} (h : TurnU U U' X Y) (h0 : ∀ k, U0 k → k < X.heap.size) (hb : b < X.heap.size) : TurnU (extU U0 b U) (extU U0 b U') X Y :=
  ⟨h.os, h.tape, h.output, h.size, fun k hk hn => h.same k hk (fun hu => hn (.inr (.inr hu))), fun k hk => by
    rcases hk with hk | hk | hk
    · exact .inl (.inl hk)
    · exact .inl (.inr (.inl hk))
    · exact (h.more k hk).imp (fun h => .inr (.inr h)) id, fun k hk => by
    have := h.size
    rcases hk with hk | hk | hk
    · have := h0 k hk; omega
    · omega
    · exact h.lt k hk⟩
theorem collected_out {W : World} {d : Nat} {U : Nat → Prop} (hd : U d) (hk : NoCalls W d) (hlt : ∀ k, U k → k < W.heap.size) : TurnU U U W (W.putObj d (.deferred none)) := .put hd hk _ hlt
set_option maxRecDepth 100000 in
set_option maxHeartbeats 4000000 in
theorem each1_seq (n : Nat) (s : List UInt8) (c : UInt8) (hc34 : c ≠ 34) (hs : s.length ≤ 1000000) (B1 B2 : Nat) (w : World) (k1 : Has w B1 9 #[.string ⟨s.toArray⟩]) (k2 : Has w B2 5 #[.int .u8 (c.toNat : Int)]) :
    SeqU n Try.prog 45 #[.pointer (some ⟨B1, 0, none⟩), .pointer (some ⟨B2, 0, none⟩)] (encEa (Ac.sp c false s)) (capP B1 B2) (Ac.sp c false s).length w := by
  intro l J Jx D Jp U0 W hW hcap hU0 hJ hJx hJp hY h0
  have k1 := k1.below hW k1.lt
  have k2 := k2.below hW k2.lt
  obtain ⟨b, hb⟩ : ∃ b, W.heap.size = b := ⟨_, rfl⟩
  obtain ⟨W1, hW1⟩ : ∃ W1, W.alloc (.cells #[.func (.yield l) #[] #[]] 69) = W1 := ⟨_, rfl⟩
  have hB1 : Below W.heap.size W W1 := by rw [← hW1]; exact (Below.refl _ _).alloc (Nat.le_refl _) _
  have kb : Has W1 b 69 #[.func (.yield l) #[] #[]] := by rw [← hW1, ← hb]; exact Has.new _ _ _
  have z1 : W1.heap.size = b + 1 := by rw [← hW1, World.size_alloc, hb]
  have k1b := k1.below hB1 k1.lt
  have k2b := k2.below hB1 k2.lt
  have c1 := k1b.cell 0
  have c2 := k2b.cell 0
  obtain ⟨W2, hW2⟩ : ∃ W2, (W1.alloc (.cells #[.string ⟨s.toArray⟩] 9)).alloc (.cells #[.int .u8 (c.toNat : Int)] 5) = W2 := ⟨_, rfl⟩
  have hp := parts_any s c W1
  rw [hW2] at hp
  have hp1 : Has W2 (b + 1) 9 #[.string ⟨s.toArray⟩] := by rw [← hW2, ← z1]; exact (Has.new _ _ _).alloc _
  have hp2 : Has W2 (b + 1 + 1) 5 #[.int .u8 (c.toNat : Int)] := by
    have := Has.new (W1.alloc (.cells #[.string ⟨s.toArray⟩] 9)) 5 #[.int .u8 (c.toNat : Int)]
    rw [hW2, World.size_alloc, z1] at this
    exact this
  have hB2 : Below W1.heap.size W1 W2 := by rw [← hW2]; exact ((Below.refl _ _).alloc (Nat.le_refl _) _).alloc (by simp) _
  have z2 : W2.heap.size = b + 3 := by rw [← hW2]; simp [z1]
  have hBW2 : Below W.heap.size W W2 := hB1.trans (hB2.mono hB1.size)
  rw [z1] at hp
  have hcapE : ∀ k, capP (b + 1) (b + 1 + 1) k → k < W2.heap.size := fun k h => by rcases h with h | h <;> omega
  have hJ0 := Lib.hid (hJ U0 (extU U0 b (capP (b + 1) (b + 1 + 1))) 0 W W2 h0 (.of_below hBW2 (fun k h => by rcases h with h | h | h | h; exact .inl h; all_goals (right; omega)) (fun k h => by rcases h with h | h | h | h; (have := hU0 k h; omega); all_goals omega)))
  have kb2 := Lib.hid (kb.below hB2 kb.lt)
  have hp' := Lib.hid hp
  have hp1' := Lib.hid hp1
  have hp2' := Lib.hid hp2
  have hY' := Lib.hid hY
  have hJ' := Lib.hid hJ
  have hJx' := Lib.hid hJx
  have hJp' := Lib.hid hJp
  have hU0' := Lib.hid (fun k (h : U0 k) => show k < b by have := hU0 k h; omega)
  have hcapE' := Lib.hid hcapE
  have hpl : ∀ x ∈ Ac.sp c false s, x.length ≤ 1000000 := fun x hx => by have := Ac.sp_mem hc34 false s x hx; omega
  have hpl' := Lib.hid hpl
  have hend : ∀ (e : Ending) (V : World) (U : Nat → Prop), (∀ k, U k → capP (b + 1) (b + 1 + 1) k ∨ W2.heap.size ≤ k) → (∀ k, U k → k < V.heap.size) → b + 3 ≤ V.heap.size → (((∃ v, e = .returned v) ∧ (J (extU U0 b U) (Ac.sp c false s).length V ∨ ∃ j, j < (Ac.sp c false s).length ∧ Jx (extU U0 b U) (j + 1) V)) ∨ (e = .panicked D ∧ Jp (extU U0 b U) V)) →
      ∃ U, (∀ k, U0 k → U k) ∧ (∀ k, U k → U0 k ∨ W.heap.size ≤ k) ∧ (∀ k, U k → k < V.heap.size) ∧ (((∃ v, e = .returned v) ∧ (J U (Ac.sp c false s).length V ∨ ∃ j, j < (Ac.sp c false s).length ∧ Jx U (j + 1) V)) ∨ (e = .panicked D ∧ Jp U V)) :=
    fun e V U h1 h2 h3 h4 => ⟨extU U0 b U, fun k h => .inl h, fun k h => by
      rcases h with h | h | h
      · exact .inl h
      · right; omega
      · rcases h1 k h with (h | h) | h <;> (right; omega), fun k h => by
      rcases h with h | h | h
      · have := hU0'.out k h; omega
      · omega
      · exact h2 k h, h4⟩
  have hend' := Lib.hid hend
  have hseq := Lib.hid (parts1_seq (n + 1) s c hc34 hs (b + 1) (b + 1 + 1) W2 hp1 hp2)
  clear k1b k2b hp hp1 hp2 hY hJ hJx hJp hU0 h0 hend hcapE hcap hBW2 hB2 hB1 kb hW2 k1 k2 hW hpl hs
  obtain ⟨ps, hps⟩ : ∃ ps, Ac.sp c false s = ps := ⟨_, rfl⟩
  rw [hps] at hY' hend' hseq hpl' ⊢
  clear hps
  refine calls_of_wpK Try.func45 rfl ?_
  simp only [Try.ntmps45, List.size_toArray, List.length_cons, List.length_nil, Nat.reduceAdd, Nat.reduceSub, Array.replicate_succ, Array.replicate_zero, List.push_toArray, List.append_toArray, List.nil_append, List.cons_append]
  refine wpK_after ?_
  go_wp2
  try rw [hW1]
  refine wpK_scope (wpK_after ?_)
  go_wp2
  go_step3
  refine wpK_after ?_
  go_wp2_with (go_at_call 46; (with_reducible refine Calls.mono hp'.out ?_); rintro e w3 ⟨rfl, hw3⟩; obtain rfl := hw3.symm)
  refine wpK_block ?_
  refine wpK_range (n := n) (gf := 54) (lb := #[.pointer (some ⟨b + 1, 0, none⟩), .pointer (some ⟨b + 1 + 1, 0, none⟩)]) rfl (enters_of Try.func54 (by kernel_rfl) rfl)
    hseq.out (Below.refl _ _) hcapE'.out (fun _ => rfl)
    (fun U j V => J (extU U0 b U) j V ∧ Has V b 69 #[.func (.yield l) #[] #[]] ∧ ¬ U b ∧ b + 3 ≤ V.heap.size)
    (fun c U j V => c = .exit 0 ∧ Jx (extU U0 b U) j V ∧ ¬ U b ∧ b + 3 ≤ V.heap.size) D
    (fun U V => Jp (extU U0 b U) V ∧ ¬ U b ∧ b + 3 ≤ V.heap.size)
    ?i1 ?i2 ?i3 ⟨hJ0.out, kb2.out, fun h => by rcases h with h | h <;> omega, by omega⟩ ?a1 ?assign ?body ?done ?left ?gave
  case i1 =>
    rintro U U' j X Y ⟨h1, h2, h3, h4⟩ ht
    exact ⟨hJ'.out _ _ _ _ _ h1 (ht.ext (fun k hk => by have := hU0'.out k hk; omega) (by omega)), ht.has h3 h2, ht.out h3 (by omega), by have := ht.size; omega⟩
  case i2 =>
    rintro c U U' j X Y ⟨rfl, h1, h3, h4⟩ ht
    exact ⟨rfl, hJx'.out _ _ _ _ _ h1 (ht.ext (fun k hk => by have := hU0'.out k hk; omega) (by omega)), ht.out h3 (by omega), by have := ht.size; omega⟩
  case i3 =>
    rintro U U' X Y ⟨h1, h3, h4⟩ ht
    exact ⟨hJp'.out _ _ _ _ h1 (ht.ext (fun k hk => by have := hU0'.out k hk; omega) (by omega)), ht.out h3 (by omega), by have := ht.size; omega⟩
  case assign =>
    intro l2 x V K hK
    have hK' := Lib.hid hK
    clear hK
    dsimp only [encPt]
    gi_wp2
    exact hK'.out
  case body =>
    rintro l2 U j V hUl ⟨h1, h2, h3, h4⟩ hj
    obtain ⟨p, hpj⟩ : ∃ p, ps[j]?.getD [] = p := ⟨_, rfl⟩
    have hpn : p.length ≤ 1000000 := by
      rw [← hpj, List.getElem?_eq_getElem hj]
      exact hpl'.out _ (List.getElem_mem hj)
    have hpd : ps.getD j [] = p := (List.getD_eq_getElem?_getD).trans hpj
    rw [hpj]
    have x0 := fun (V' : Grown V) => (h2.below V'.below h2.lt).cell 0
    have t1 := Lib.hid (fun (V' : Grown V) => CallsIn.inRound l2 (callsIn_wide (n := n - 1).2 (grow_call V' (show Calls Try.prog 47 #[.string ⟨p.toArray⟩] V'.v fun e w' => e = .returned (.string ⟨(trimL p).toArray⟩) ∧ Below V'.v.heap.size V'.v w' from trim_any p V'.v hpn))))
    have hyl := Lib.hid (fun (V' : Grown V) => hY'.out (extU U0 b U) j V'.v (hJ'.out _ _ _ _ _ h1 (.of_below V'.below (fun k h => .inl h) (fun k h => by
      have := V'.below.size
      rcases h with h | h | h
      · have := hU0'.out k h; omega
      · omega
      · have := hUl k h; omega))) hj (fun k h => by
      have := V'.below.size
      rcases h with h | h | h
      · have := hU0'.out k h; omega
      · omega
      · have := hUl k h; omega))
    have h2' := Lib.hid h2
    have h3' := Lib.hid h3
    have hUl' := Lib.hid hUl
    obtain ⟨q, hq⟩ : ∃ q, trimL p = q := ⟨_, rfl⟩
    have hen : encEa ps j = #[.int .i64 (j : Int), .string ⟨q.toArray⟩] := by unfold encEa; rw [hpd, hq]
    rw [hq] at t1
    rw [hen] at hyl
    clear h1 h2 h3 hUl hen hq hpj hpd hpn
    gi_wp2
    refine wpIn_region_grow_tail 4 (by kernel_rfl) (by kernel_rfl) (by kernel_rfl) ?_
    simp only [List.take_succ_cons, List.take_zero, List.drop_succ_cons, List.drop_zero]
    iterate 4 (gi_big_quiet_step ((gi_at_call 47; exact t1.out _)))
    refine wpQuietIn_nil ?_
    intro _ hw'
    obtain ⟨V', hw''⟩ := hw'
    subst hw''
    obtain ⟨fn, tmps, assign, body, hy, hR⟩ := hyl.out V'
    have hR' := Lib.hid (round_any (m' := n - 1) (l' := l2) hR)
    clear hR
    have hbV := Lib.hid V'.below
    have hj' := Lib.hid hj
    have hJr : ∀ {V3 : World}, KeptU (extU U0 b U) V'.v V3 → KeptU U V V3 := fun h => (KeptU.below V'.below hUl'.out).trans (h.mono (fun k hk => .inr (.inr hk)))
    have hbr : ∀ {V3 : World}, KeptU (extU U0 b U) V'.v V3 → Has V3 b 69 #[.func (.yield l) #[] #[]] ∧ b + 3 ≤ V3.heap.size := fun h => ⟨h.has (.inr (.inl rfl)) (h2'.out.below V'.below h2'.out.lt), by have := h.size; have := V'.below.size; omega⟩
    gi_wp2
    refine hR'.out.mono ?_
    rintro e V3 ⟨hk3, (⟨rfl, hj3⟩ | ⟨rfl, hj3⟩ | ⟨rfl, hj3⟩)⟩
    · have q1 := Lib.hid (hJr hk3)
      have q2 := Lib.hid (hbr hk3)
      have hj3' := Lib.hid hj3
      clear hk3 hj3 hJr hbr
      gi_wp2
      exact ⟨q1.out, hj3'.out, q2.out.1, h3'.out, q2.out.2⟩
    · have q1 := Lib.hid (hJr hk3)
      have q2 := Lib.hid (hbr hk3)
      have hj3' := Lib.hid hj3
      clear hk3 hj3 hJr hbr
      gi_wp2
      exact ⟨q1.out, rfl, hj3'.out, h3'.out, q2.out.2⟩
    · exact ⟨rfl, rfl, hJr hk3, hj3, h3'.out, (hbr hk3).2⟩
  case done =>
    rintro U d V hd hUd hU1 hU2 hUl ⟨h1, h2, h3, h4⟩ hk
    have ht := collected_out hUd hk hUl
    refine ⟨by simp, .inl ⟨_, _, rfl, run_takeDeferred hk, ?_⟩⟩
    refine ⟨.tuple #[], results_none rfl _ _ _, hend'.out _ _ U hU2 ht.lt (by have := ht.size; omega) (.inl ⟨⟨_, rfl⟩, .inl (hJ'.out _ _ _ _ _ h1 (ht.ext (fun k hk => by have := hU0'.out k hk; omega) (by omega)))⟩)⟩
  case left =>
    rintro c U d j V hd hUd hU1 hU2 hUl hj ⟨rfl, h1, h3, h4⟩ hk
    have ht := collected_out hUd hk hUl
    refine wpK_of (wp_exit ?_)
    refine ⟨by simp, .inl ⟨_, _, rfl, run_takeDeferred hk, ?_⟩⟩
    refine ⟨.tuple #[], results_none rfl _ _ _, hend'.out _ _ U hU2 ht.lt (by have := ht.size; omega) (.inl ⟨⟨_, rfl⟩, .inr ⟨j, hj, hJx'.out _ _ _ _ _ h1 (ht.ext (fun k hk => by have := hU0'.out k hk; omega) (by omega))⟩⟩)⟩
  case gave =>
    rintro U d V hd hUd hU2 hUl ⟨h1, h3, h4⟩ hk
    have ht := collected_out hUd hk hUl
    refine ⟨by simp, .inl ⟨_, _, rfl, run_takeDeferred hk, ?_⟩⟩
    exact hend'.out _ _ U hU2 ht.lt (by have := ht.size; omega) (.inr ⟨rfl, hJp'.out _ _ _ _ h1 (ht.ext (fun k hk => by have := hU0'.out k hk; omega) (by omega))⟩)
end Go.Proofs.Ythpohjafnljfhaa

namespace Go.Proofs.Ythpohjafnljfhaa
open Go.RowKit
attribute [local go_sem] Oper.semAt_some
attribute [local go_sem] wideF_fn wideF_depth wideF_round

/-! ## A list's items, one by one -/
theorem each_maker (s : List UInt8) (c : UInt8) (w : World) : Calls Try.prog 34 #[.string ⟨s.toArray⟩, .int .u8 (c.toNat : Int)] w fun e w' => e = .returned (.func (.func 45) #[] #[.pointer (some ⟨w.heap.size, 0, none⟩), .pointer (some ⟨w.heap.size + 1, 0, none⟩)]) ∧ w' = (w.alloc (.cells #[.string ⟨s.toArray⟩] 9)).alloc (.cells #[.int .u8 (c.toNat : Int)] 5) := by
  go_enter Try.func34, Try.ntmps34
  go_wp2
  go_ret
  exact ⟨rfl, rfl⟩
theorem items_maker (s : List UInt8) (w : World) : Calls Try.prog 27 #[.string ⟨s.toArray⟩] w fun e w' => e = .returned (.func (.func 33) #[] #[.pointer (some ⟨w.heap.size, 0, none⟩)]) ∧ w' = w.alloc (.cells #[.string ⟨s.toArray⟩] 9) := by
  go_enter Try.func27, Try.ntmps27
  go_wp2
  go_ret
  exact ⟨rfl, rfl⟩
/-- How many of the first ones count. -/
def cntI (L : List (List UInt8)) (j : Nat) : Nat := ((L.take j).filter fun t => !t.isEmpty).length
theorem cntI_no {L : List (List UInt8)} {j : Nat} (h : j < L.length) (h0 : L[j] = []) : cntI L (j + 1) = cntI L j := by
  unfold cntI
  rw [List.take_succ_eq_append_getElem h, h0, List.filter_append]
  simp
theorem cntI_yes {L : List (List UInt8)} {j : Nat} (h : j < L.length) (h0 : L[j] ≠ []) : cntI L (j + 1) = cntI L j + 1 ∧ cntI L j < (L.filter fun t => !t.isEmpty).length ∧ (L.filter fun t => !t.isEmpty).getD (cntI L j) [] = L[j] := by
  have hy : (!(L[j]).isEmpty) = true := by cases hL : L[j] with
    | nil => exact absurd hL h0
    | cons a b => rfl
  have e : L.filter (fun t => !t.isEmpty) = (L.take j).filter (fun t => !t.isEmpty) ++ L[j] :: (L.drop (j + 1)).filter (fun t => !t.isEmpty) := by
    conv => lhs; rw [← List.take_append_drop j L, List.drop_eq_getElem_cons h]
    rw [List.filter_append, List.filter_cons, if_pos hy]
  refine ⟨?_, ?_, ?_⟩
  · unfold cntI
    rw [List.take_succ_eq_append_getElem h, List.filter_append, List.filter_cons, if_pos hy]
    simp
  · rw [e]; unfold cntI; simp
  · rw [e, List.getD_eq_getElem?_getD]
    unfold cntI
    rw [List.getElem?_append_right (Nat.le_refl _)]
    simp
theorem cntI_le (L : List (List UInt8)) (j : Nat) : cntI L j ≤ L.length := Nat.le_trans (List.length_filter_le _ _) (by rw [List.length_take]; omega)
def encIt (l : List (List UInt8)) (j : Nat) : Array Value := #[.int .i64 (j : Int), .string ⟨(l.getD j []).toArray⟩]
def cap1 (B : Nat) : Nat → Prop := fun k => k = B
set_option maxRecDepth 100000 in
set_option maxHeartbeats 4000000 in
theorem items1_seq (n : Nat) (s : List UInt8) (hs : s.length ≤ 1000000) (B : Nat) (w : World) (k1 : Has w B 9 #[.string ⟨s.toArray⟩]) :
    SeqU n Try.prog 33 #[.pointer (some ⟨B, 0, none⟩)] (encIt (Ac.items s)) (cap1 B) (Ac.items s).length w := by
  intro l J Jx D Jp U0 W hW hcap hU0 hJ hJx hJp hY h0
  have k1 := k1.below hW k1.lt
  obtain ⟨b, hb⟩ : ∃ b, W.heap.size = b := ⟨_, rfl⟩
  obtain ⟨Wa, hWa⟩ : ∃ Wa, W.alloc (.cells #[.func (.yield l) #[] #[]] 69) = Wa := ⟨_, rfl⟩
  have hBa : Below W.heap.size W Wa := by rw [← hWa]; exact (Below.refl _ _).alloc (Nat.le_refl _) _
  have kba : Has Wa b 69 #[.func (.yield l) #[] #[]] := by rw [← hWa, ← hb]; exact Has.new _ _ _
  have za : Wa.heap.size = b + 1 := by rw [← hWa, World.size_alloc, hb]
  obtain ⟨Wb, hWb⟩ : ∃ Wb, Wa.alloc (.cells #[.int .i64 0] 3) = Wb := ⟨_, rfl⟩
  have knb : Has Wb (b + 1) 3 #[.int .i64 0] := by rw [← hWb, ← za]; exact Has.new _ _ _
  have cnb := knb.cell 0
  have fnb := knb.free 0
  obtain ⟨W1, hW1⟩ : ∃ W1, Wb.setCell ⟨b + 1, 0, none⟩ (.int .i64 0) = W1 := ⟨_, rfl⟩
  have hB1 : Below Wa.heap.size Wa W1 := by rw [← hW1, ← hWb]; exact ((Below.refl _ _).alloc (Nat.le_refl _) _).setCell (p := ⟨b + 1, 0, none⟩) (by show Wa.heap.size ≤ b + 1; omega) _
  have kb : Has W1 b 69 #[.func (.yield l) #[] #[]] := kba.below hB1 kba.lt
  have kn : Has W1 (b + 1) 3 #[.int .i64 0] := by rw [← hW1]; simpa using knb.put 0 (.int .i64 0)
  have z1 : W1.heap.size = b + 1 + 1 := by rw [← hW1, ← hWb]; simp [World.setCell, za]
  have hB01 : Below W.heap.size W W1 := hBa.trans (hB1.mono hBa.size)
  have k1b := k1.below hB01 k1.lt
  obtain ⟨W2, hW2⟩ : ∃ W2, (W1.alloc (.cells #[.string ⟨s.toArray⟩] 9)).alloc (.cells #[.int .u8 ((44 : UInt8).toNat : Int)] 5) = W2 := ⟨_, rfl⟩
  have hp := each_maker s 44 W1
  rw [hW2] at hp
  have hp1 : Has W2 (b + 1 + 1) 9 #[.string ⟨s.toArray⟩] := by rw [← hW2, ← z1]; exact (Has.new _ _ _).alloc _
  have hp2 : Has W2 (b + 1 + 1 + 1) 5 #[.int .u8 ((44 : UInt8).toNat : Int)] := by
    have := Has.new (W1.alloc (.cells #[.string ⟨s.toArray⟩] 9)) 5 #[.int .u8 ((44 : UInt8).toNat : Int)]
    rw [hW2, World.size_alloc, z1] at this
    exact this
  have hB2 : Below W1.heap.size W1 W2 := by rw [← hW2]; exact ((Below.refl _ _).alloc (Nat.le_refl _) _).alloc (by simp) _
  have z2 : W2.heap.size = b + 4 := by rw [← hW2]; simp [z1]
  have hBW2 : Below W.heap.size W W2 := hB01.trans (hB2.mono hB01.size)
  rw [z1, show ((44 : UInt8).toNat : Int) = 44 from rfl] at hp
  obtain ⟨U00, hU00⟩ : ∃ U00 : Nat → Prop, U00 = fun k => U0 k ∨ k = b := ⟨_, rfl⟩
  have u00l : ∀ k, U00 k → k < b + 1 := fun k h => by rw [hU00] at h; rcases h with h | h; (have := hU0 k h; omega); omega
  have u00b : U00 b := by rw [hU00]; exact .inr rfl
  have u00i : ∀ k, U0 k → U00 k := fun k h => by rw [hU00]; exact .inl h
  have u00o : ∀ k, U00 k → U0 k ∨ k = b := fun k h => by rw [hU00] at h; exact h
  clear hU00
  have hcapE : ∀ k, capP (b + 1 + 1) (b + 1 + 1 + 1) k → k < W2.heap.size := fun k h => by rcases h with h | h <;> omega
  obtain ⟨ps, hps⟩ : ∃ ps, Ac.sp 44 false s = ps := ⟨_, rfl⟩
  have hpl : ps.length ≤ 1000001 := by have := Ac.sp_len (c := 44) (by decide) false s; rw [hps] at this; omega
  obtain ⟨its, hits⟩ : ∃ its, Ac.items s = its := ⟨_, rfl⟩
  have hitF : its = (ps.map trimL).filter fun t => !t.isEmpty := by rw [← hits, ← hps]; rfl
  have hJ0 := Lib.hid (hJ U0 (extU U00 (b + 1) (capP (b + 1 + 1) (b + 1 + 1 + 1))) 0 W W2 h0 (.of_below hBW2 (fun k h => by
    rcases h with h | h | h | h
    · exact (u00o k h).imp id (fun e => by omega)
    all_goals (right; omega)) (fun k h => by rcases h with h | h | h | h; (have := u00l k h; omega); all_goals omega)))
  have kb2 := Lib.hid (kb.below hB2 kb.lt)
  have kn2 := Lib.hid (kn.below hB2 kn.lt)
  have hp' := Lib.hid hp
  have hY' := Lib.hid hY
  have hJ' := Lib.hid hJ
  have hJx' := Lib.hid hJx
  have hJp' := Lib.hid hJp
  have u00l' := Lib.hid u00l
  have u00b' := Lib.hid u00b
  have hcapE' := Lib.hid hcapE
  have hend : ∀ (e : Ending) (V : World) (U : Nat → Prop), (∀ k, U k → capP (b + 1 + 1) (b + 1 + 1 + 1) k ∨ W2.heap.size ≤ k) → (∀ k, U k → k < V.heap.size) → b + 4 ≤ V.heap.size → (((∃ v, e = .returned v) ∧ (J (extU U00 (b + 1) U) its.length V ∨ ∃ j, j < its.length ∧ Jx (extU U00 (b + 1) U) (j + 1) V)) ∨ (e = .panicked D ∧ Jp (extU U00 (b + 1) U) V)) →
      ∃ U, (∀ k, U0 k → U k) ∧ (∀ k, U k → U0 k ∨ W.heap.size ≤ k) ∧ (∀ k, U k → k < V.heap.size) ∧ (((∃ v, e = .returned v) ∧ (J U its.length V ∨ ∃ j, j < its.length ∧ Jx U (j + 1) V)) ∨ (e = .panicked D ∧ Jp U V)) :=
    fun e V U h1 h2 h3 h4 => ⟨extU U00 (b + 1) U, fun k h => .inl (u00i k h), fun k h => by
      rcases h with h | h | h
      · exact (u00o k h).imp id (fun e => by omega)
      · right; omega
      · rcases h1 k h with (h | h) | h <;> (right; omega), fun k h => by
      rcases h with h | h | h
      · have := u00l'.out k h; omega
      · omega
      · exact h2 k h, h4⟩
  have hend' := Lib.hid hend
  have hseq := Lib.hid (each1_seq (n + 1) s 44 (by decide) hs (b + 1 + 1) (b + 1 + 1 + 1) W2 hp1 hp2)
  rw [hps] at hseq
  rw [hits] at hY' ⊢
  have c1 := k1b.cell 0
  have hitF' := Lib.hid hitF
  clear k1b hp hp1 hp2 hY hJ hJx hJp hU0 h0 hend hcapE hcap hBW2 hB2 hB1 kb hW2 k1 hW hps hits hitF u00l u00b u00i u00o kn hB01 hBa kba knb
  refine calls_of_wpK Try.func33 rfl ?_
  simp only [Try.ntmps33, List.size_toArray, List.length_cons, List.length_nil, Nat.reduceAdd, Nat.reduceSub, Array.replicate_succ, Array.replicate_zero, List.push_toArray, List.append_toArray, List.nil_append, List.cons_append]
  refine wpK_after ?_
  go_wp2
  try rw [hWa]
  refine wpK_after ?_
  go_wp2
  try rw [hWb]
  try rw [hW1]
  clear cnb fnb
  refine wpK_after ?_
  go_wp2_with (go_at_call 34; (with_reducible refine Calls.mono hp'.out ?_); rintro e w3 ⟨rfl, hw3⟩; obtain rfl := hw3.symm)
  refine wpK_block ?_
  refine wpK_range (n := n) (gf := 45) (lb := #[.pointer (some ⟨b + 1 + 1, 0, none⟩), .pointer (some ⟨b + 1 + 1 + 1, 0, none⟩)]) rfl (enters_of Try.func45 (by kernel_rfl) rfl)
    hseq.out (Below.refl _ _) hcapE'.out (fun _ => rfl)
    (fun U j V => J (extU U00 (b + 1) U) (cntI (ps.map trimL) j) V ∧ Has V b 69 #[.func (.yield l) #[] #[]] ∧ Has V (b + 1) 3 #[.int .i64 (cntI (ps.map trimL) j : Int)] ∧ ¬ U b ∧ ¬ U (b + 1) ∧ b + 4 ≤ V.heap.size)
    (fun c U j V => c = .ret ∧ (∃ i, i < its.length ∧ Jx (extU U00 (b + 1) U) (i + 1) V) ∧ ¬ U b ∧ ¬ U (b + 1) ∧ b + 4 ≤ V.heap.size) D
    (fun U V => Jp (extU U00 (b + 1) U) V ∧ ¬ U b ∧ ¬ U (b + 1) ∧ b + 4 ≤ V.heap.size)
    ?i1 ?i2 ?i3 ⟨hJ0.out, kb2.out, kn2.out, fun h => by rcases h with h | h <;> omega, fun h => by rcases h with h | h <;> omega, by omega⟩ ?a1 ?assign ?body ?done ?left ?gave
  case i1 =>
    rintro U U' j X Y ⟨h1, h2, hn, h3, h5, h4⟩ ht
    exact ⟨hJ'.out _ _ _ _ _ h1 (ht.ext (fun k hk => by have := u00l'.out k hk; omega) (by omega)), ht.has h3 h2, ht.has h5 hn, ht.out h3 (by omega), ht.out h5 (by omega), by have := ht.size; omega⟩
  case i2 =>
    rintro c U U' j X Y ⟨rfl, ⟨i, hi, h1⟩, h3, h5, h4⟩ ht
    exact ⟨rfl, ⟨i, hi, hJx'.out _ _ _ _ _ h1 (ht.ext (fun k hk => by have := u00l'.out k hk; omega) (by omega))⟩, ht.out h3 (by omega), ht.out h5 (by omega), by have := ht.size; omega⟩
  case i3 =>
    rintro U U' X Y ⟨h1, h3, h5, h4⟩ ht
    exact ⟨hJp'.out _ _ _ _ h1 (ht.ext (fun k hk => by have := u00l'.out k hk; omega) (by omega)), ht.out h3 (by omega), ht.out h5 (by omega), by have := ht.size; omega⟩
  case assign =>
    intro l2 x V K hK
    have hK' := Lib.hid hK
    clear hK
    dsimp only [encEa]
    gi_wp2
    exact hK'.out
  case body =>
    rintro l2 U j V hUl ⟨h1, h2, hn, h3, h5, h4⟩ hj
    have hjm : j < (ps.map trimL).length := by rw [List.length_map]; exact hj
    obtain ⟨p, hpj⟩ : ∃ p, trimL (ps[j]?.getD []) = p := ⟨_, rfl⟩
    have hpd : (ps.map trimL)[j] = p := by rw [List.getElem_map, ← hpj, List.getElem?_eq_getElem hj]; rfl
    try rw [hpj]
    have hm1 := cntI_le (ps.map trimL) j
    have hno := fun h : p = [] => cntI_no hjm (hpd.trans h)
    have hyes : p ≠ [] → cntI (ps.map trimL) (j + 1) = cntI (ps.map trimL) j + 1 ∧ cntI (ps.map trimL) j < its.length ∧ its.getD (cntI (ps.map trimL) j) [] = p := fun h => by
      obtain ⟨q1, q2, q3⟩ := cntI_yes hjm (fun e => h (hpd.symm.trans e))
      rw [← hitF'.out] at q2 q3
      exact ⟨q1, q2, q3.trans hpd⟩
    rw [List.length_map] at hm1
    obtain ⟨m, hm⟩ : ∃ m, cntI (ps.map trimL) j = m := ⟨_, rfl⟩
    obtain ⟨m1, hm1e⟩ : ∃ m, cntI (ps.map trimL) (j + 1) = m := ⟨_, rfl⟩
    rw [hm, hm1e] at hyes hno
    rw [hm] at h1 hn hm1
    have hm1e' := Lib.hid hm1e
    have hkU : ∀ {V3 : World}, KeptU (extU U00 (b + 1) U) V V3 → KeptU U V V3 := fun h => h.mono (fun k hk => .inr (.inr hk))
    have hext : ∀ k, extU U00 (b + 1) U k → k < V.heap.size := fun k h => by
      rcases h with h | h | h
      · have := u00l'.out k h; omega
      · omega
      · exact hUl k h
    have d0 := h2.cell 0
    have d1 := hn.cell 0
    have f1 := hn.free 0
    by_cases hp0 : p = []
    · have hmm := hno hp0
      subst hp0
      have h1' := Lib.hid h1
      have h2' := Lib.hid h2
      have hn' := Lib.hid hn
      clear hyes hno hm hm1e h1 h2 hn hpj hpd
      gi_wp2
      exact ⟨⟨Nat.le_refl _, fun _ _ => rfl⟩, by rw [hm1e'.out, hmm]; exact h1'.out, h2'.out, by rw [hm1e'.out, hmm]; exact hn'.out, h3, h5, h4⟩
    · obtain ⟨hmm, hlt, hget⟩ := hyes hp0
      obtain ⟨fn, tmps, assign, body, hy, hR⟩ := hY'.out _ m V h1 hlt hext
      have hy' : (Instr.yield l #[.int .i64 (m : Int), .string ⟨p.toArray⟩]).run Try.prog V = .ok (Next.round l fn tmps assign body) V := by
        unfold encIt at hy
        rw [hget] at hy
        exact hy
      have hR' := Lib.hid (round_any (m' := n - 1) (l' := l2) hR)
      have hne : (p == []) = false := by cases p with
        | nil => exact absurd rfl hp0
        | cons a b => rfl
      have hne2 : p.isEmpty = false := by cases p with
        | nil => exact absurd rfl hp0
        | cons a b => rfl
      have hlt' := Lib.hid hlt
      have h2' := Lib.hid h2
      have hn' := Lib.hid hn
      have u00b2 : U00 b := u00b'.out
      clear hyes hno hm hm1e h1 h2 hn hpj hpd hy hR hget
      gi_wp2
      refine hR'.out.mono ?_
      rintro e V3 ⟨hk3, (⟨rfl, hj3⟩ | ⟨rfl, hj3⟩ | ⟨rfl, hj3⟩)⟩
      · have b3 := Lib.hid (hk3.has (.inl u00b2) h2'.out)
        have n3 := hk3.has (.inr (.inl rfl)) hn'.out
        have e1 := n3.cell 0
        have e2 := n3.free 0
        have z3 := hk3.size
        have hk3' := Lib.hid hk3
        have n3' := Lib.hid n3
        have hj3' := Lib.hid hj3
        clear hk3 hj3 n3 hkU
        gi_wp2
        have hb1 : (b + 1) ≠ b := by omega
        refine ⟨(hk3'.out.mono (fun k hk => .inr (.inr hk))).set (p := ⟨b + 1, 0, none⟩) h5 _, ?_, ?_, ?_, h3, h5, by simp [World.setCell]; omega⟩
        · rw [hm1e'.out, hmm]
          refine hJ'.out _ _ _ _ _ hj3'.out ⟨rfl, rfl, rfl, by simp [World.setCell], fun k _ hn => Below.heap_setCell _ _ _ k (fun e => hn (.inr (.inl e))), fun k h => .inl h, fun k h => by have := hext k h; simp [World.setCell]; omega⟩
        · exact (Below.heap_setCell _ _ _ b (by show b ≠ b + 1; omega)).trans b3.out
        · have := n3'.out.put 0 (.int .i64 ((m : Int) + 1))
          rw [hm1e'.out, hmm, show ((m + 1 : Nat) : Int) = (m : Int) + 1 by omega]
          simpa using this
      · have hk3' := Lib.hid hk3
        have hj3' := Lib.hid hj3
        have z3 := hk3.size
        clear hk3 hj3 hkU
        gi_wp2
        exact ⟨hk3'.out.mono (fun k hk => .inr (.inr hk)), rfl, ⟨m, hlt'.out, hj3'.out⟩, h3, h5, by omega⟩
      · exact ⟨rfl, rfl, hkU hk3, hj3, h3, h5, by have := hk3.size; omega⟩
  case done =>
    rintro U d V hd hUd hU1 hU2 hUl ⟨h1, h2, hn, h3, h5, h4⟩ hk
    have ht := collected_out hUd hk hUl
    have hN : cntI (ps.map trimL) ps.length = its.length := by rw [hitF'.out]; unfold cntI; rw [List.take_of_length_le (by rw [List.length_map]; omega)]
    rw [hN] at h1
    refine ⟨by simp, .inl ⟨_, _, rfl, run_takeDeferred hk, ?_⟩⟩
    refine ⟨.tuple #[], results_none rfl _ _ _, hend'.out _ _ U hU2 ht.lt (by have := ht.size; omega) (.inl ⟨⟨_, rfl⟩, .inl (hJ'.out _ _ _ _ _ h1 (ht.ext (fun k hk => by have := u00l'.out k hk; omega) (by omega)))⟩)⟩
  case left =>
    rintro c U d j V hd hUd hU1 hU2 hUl hj ⟨rfl, ⟨i, hi, h1⟩, h3, h5, h4⟩ hk
    have ht := collected_out hUd hk hUl
    refine wpK_of (wp_ret ?_)
    refine ⟨by simp, .inl ⟨_, _, rfl, run_takeDeferred hk, ?_⟩⟩
    refine ⟨.tuple #[], results_none rfl _ _ _, hend'.out _ _ U hU2 ht.lt (by have := ht.size; omega) (.inl ⟨⟨_, rfl⟩, .inr ⟨i, hi, hJx'.out _ _ _ _ _ h1 (ht.ext (fun k hk => by have := u00l'.out k hk; omega) (by omega))⟩⟩)⟩
  case gave =>
    rintro U d V hd hUd hU2 hUl ⟨h1, h3, h5, h4⟩ hk
    have ht := collected_out hUd hk hUl
    refine ⟨by simp, .inl ⟨_, _, rfl, run_takeDeferred hk, ?_⟩⟩
    exact hend'.out _ _ U hU2 ht.lt (by have := ht.size; omega) (.inr ⟨rfl, hJp'.out _ _ _ _ h1 (ht.ext (fun k hk => by have := u00l'.out k hk; omega) (by omega))⟩)
end Go.Proofs.Ythpohjafnljfhaa
