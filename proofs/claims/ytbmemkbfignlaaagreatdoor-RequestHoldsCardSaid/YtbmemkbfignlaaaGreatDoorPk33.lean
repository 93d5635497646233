import Derived.Test.YtbmemkbfignlaaaGreatDoorPk32
import Derived.Test.YtbmemkbfignlaaaGreatDoorPk18
import Derived.Test.YtbmemkbfignlaaaGreatDoorPk31
import Derived.Test.YtbmemkbfignlaaaGreatDoorPk43
namespace Go.Proofs.YtbmemkbfignlaaaGreatDoor
open Go.RowKit Go.Shelf
attribute [local go_sem] Oper.semAt_some
attribute [local go_sem] wideF_fn wideF_depth wideF_round

/-! ## head.Each: the fields of a name -/
/-- How many of the first ones count. -/
def cntP {α : Type} (p : α → Bool) (L : List α) (j : Nat) : Nat := ((L.take j).filter p).length
theorem cntP_no {α : Type} {p : α → Bool} {L : List α} {j : Nat} (h : j < L.length) (h0 : p L[j] = false) : cntP p L (j + 1) = cntP p L j := by
  unfold cntP
  rw [List.take_succ_eq_append_getElem h, List.filter_append]
  simp [h0]
theorem cntP_yes {α : Type} {p : α → Bool} {L : List α} {j : Nat} (d : α) (h : j < L.length) (h0 : p L[j] = true) : cntP p L (j + 1) = cntP p L j + 1 ∧ cntP p L j < (L.filter p).length ∧ (L.filter p).getD (cntP p L j) d = L[j] := by
  have e : L.filter p = (L.take j).filter p ++ L[j] :: (L.drop (j + 1)).filter p := by
    conv => lhs; rw [← List.take_append_drop j L, List.drop_eq_getElem_cons h]
    rw [List.filter_append, List.filter_cons, if_pos h0]
  refine ⟨?_, ?_, ?_⟩
  · unfold cntP
    rw [List.take_succ_eq_append_getElem h, List.filter_append, List.filter_cons, if_pos h0]
    simp
  · rw [e]; unfold cntP; simp
  · rw [e, List.getD_eq_getElem?_getD]
    unfold cntP
    rw [List.getElem?_append_right (Nat.le_refl _)]
    simp
/-- Where the fields of a name stand. -/
def whereI (name : List UInt8) (qs : List PairL) (i : Nat) : Bool := Rr.isName name (qs.getD i ([], []))
def selI (name : List UInt8) (qs : List PairL) : List Nat := (List.range qs.length).filter (whereI name qs)
theorem selI_vals (name : List UInt8) (qs : List PairL) : (selI name qs).map (fun i => (qs.getD i ([], [])).2) = Rr.vals name qs := by
  have e : qs = (List.range qs.length).map (fun i => qs.getD i ([], [])) := by
    apply List.ext_getElem (by simp)
    intro i h1 h2
    simp [List.getD_eq_getElem?_getD, List.getElem?_eq_getElem h1]
  unfold Rr.vals selI
  conv => rhs; rw [e, List.filter_map, List.map_map]
  rfl
theorem selI_len (name : List UInt8) (qs : List PairL) : (selI name qs).length ≤ qs.length := by
  have := List.length_filter_le (whereI name qs) (List.range qs.length)
  unfold selI
  simpa using this
theorem selI_lt {name : List UInt8} {qs : List PairL} {j : Nat} (h : j < (selI name qs).length) : (selI name qs).getD j 0 < qs.length := by
  rw [List.getD_eq_getElem?_getD, List.getElem?_eq_getElem h]
  have := List.getElem_mem h
  have := (List.mem_filter.1 this).1
  simpa using this
/-- What is gone over, and what tells what is wanted. -/
structure SfEnv (W : World) (bT bW bN : Nat) (v : Value) (qs : List PairL) (name : List UInt8) : Prop where
  things : Has W bT 26 #[v]
  wanted : Has W bW 167 #[.func (.func 148) #[] #[.pointer (some ⟨bN, 0, none⟩)]]
  name : Has W bN 9 #[.string ⟨name.toArray⟩]
  row : HdsO W 0 v qs
def capS (bT bW bN : Nat) (v : Value) : Nat → Prop := fun k => k = bT ∨ k = bW ∨ k = bN ∨ v.ownBlock = some k
section
variable {W W' : World} {bT bW bN : Nat} {v : Value} {qs : List PairL} {name : List UInt8}
theorem SfEnv.below (h : SfEnv W bT bW bN v qs name) (hb : Below W.heap.size W W') : SfEnv W' bT bW bN v qs name :=
  ⟨h.things.below hb h.things.lt, h.wanted.below hb h.wanted.lt, h.name.below hb h.name.lt, h.row.below hb⟩
theorem SfEnv.kept {U : Nat → Prop} (h : SfEnv W bT bW bN v qs name) (hU : ∀ k, capS bT bW bN v k → U k) (hk : KeptU U W W') : SfEnv W' bT bW bN v qs name :=
  ⟨hk.has (hU _ (.inl rfl)) h.things, hk.has (hU _ (.inr (.inl rfl))) h.wanted, hk.has (hU _ (.inr (.inr (.inl rfl)))) h.name, h.row.kept fun g hg => hk.same g (hU _ (.inr (.inr (.inr hg))))⟩
theorem SfEnv.cap (h : SfEnv W bT bW bN v qs name) : ∀ k, capS bT bW bN v k → k < W.heap.size := fun k hk => by
  rcases hk with rfl | rfl | rfl | hk
  · exact h.things.lt
  · exact h.wanted.lt
  · exact h.name.lt
  · exact (h.row.own k hk).2.choose_spec.lt
end
set_option maxRecDepth 100000 in
theorem named_any (bN : Nat) (name : List UInt8) (q : PairL) (w : World) (hN : Has w bN 9 #[.string ⟨name.toArray⟩]) (hn : name.length ≤ 1000000) (hq : q.1.length ≤ 1000000) :
    Calls Tryz.prog 148 #[.agg #[.string ⟨q.1.toArray⟩, .string ⟨q.2.toArray⟩], .pointer (some ⟨bN, 0, none⟩)] w fun e w' => e = .returned (.bool (Rr.isName name q)) ∧ Below w.heap.size w w' := by
  obtain ⟨n, hz⟩ : ∃ n, w.heap.size = n := ⟨_, rfl⟩
  obtain ⟨w1, hw1⟩ : ∃ w1, w.alloc (.cells #[.string ⟨q.1.toArray⟩, .string ⟨q.2.toArray⟩] 56) = w1 := ⟨_, rfl⟩
  have hB1 : Below w.heap.size w w1 := by rw [← hw1]; exact (Below.refl _ _).alloc (Nat.le_refl _) _
  have z0 : Has w1 n 56 #[.string ⟨q.1.toArray⟩, .string ⟨q.2.toArray⟩] := by rw [← hw1, ← hz]; exact Has.new _ _ _
  have c0 := z0.cell 0
  have c1 := (hN.below hB1 hN.lt).cell 0
  have hs := Lib.hid (show Calls Tryz.prog 90 #[.string ⟨q.1.toArray⟩, .string ⟨name.toArray⟩] w1 fun e w' => e = .returned (.bool (Rr.isName name q)) ∧ Below w1.heap.size w1 w' from same_any q.1 name w1 hq hn)
  have hB1' := Lib.hid hB1
  generalize Rr.isName name q = b at *
  clear hB1 z0 hN
  go_enter Tryz.func148, Tryz.ntmps148
  go_wp2_with (go_at_call 90; (with_reducible refine Calls.mono hs.out ?_); rintro e w2 ⟨rfl, hb2⟩; have hb2' := Lib.hid hb2; clear hb2)
  go_ret
  exact ⟨rfl, hB1'.out.trans (hb2'.out.mono hB1'.out.size)⟩
def idxA (l : List Nat) (j : Nat) : Nat := l.getD j 0
def hdA (qs : List PairL) (l : List Nat) (j : Nat) : PairL := qs.getD (idxA l j) ([], [])
def encHd (qs : List PairL) (l : List Nat) (j : Nat) : Array Value := #[.int .i64 (idxA l j : Int), .agg #[.string ⟨(hdA qs l j).1.toArray⟩, .string ⟨(hdA qs l j).2.toArray⟩]]
set_option maxRecDepth 100000 in
set_option maxHeartbeats 4000000 in
theorem sift1_seq (n : Nat) (bT bW bN : Nat) (v : Value) (qs : List PairL) (name : List UInt8) (hl : qs.length ≤ 900000) (hn : name.length ≤ 1000000) (hq : ∀ q ∈ qs, q.1.length ≤ 600000 ∧ q.2.length ≤ 600000) (w : World) (hE : SfEnv w bT bW bN v qs name) :
    SeqU n Tryz.prog 172 #[.pointer (some ⟨bT, 0, none⟩), .pointer (some ⟨bW, 0, none⟩)] (encHd qs (selI name qs)) (capS bT bW bN v) (selI name qs).length w := by
  intro l J Jx D Jp U0 W hW hcap hU0 hJ hJx hJp hY h0
  have hEW := hE.below hW
  obtain ⟨A, c, hv, _⟩ := hEW.row.prs
  subst hv
  have c1 := hEW.things.cell 0
  have hli : (qs.length : Int) ≤ 900000 := by omega
  have hend : ∀ (e : Ending) (V : World), (∀ k, U0 k → k < V.heap.size) → (((∃ v, e = .returned v) ∧ (J U0 (selI name qs).length V ∨ ∃ j, j < (selI name qs).length ∧ Jx U0 (j + 1) V)) ∨ (e = .panicked D ∧ Jp U0 V)) →
      ∃ U, (∀ k, U0 k → U k) ∧ (∀ k, U k → U0 k ∨ W.heap.size ≤ k) ∧ (∀ k, U k → k < V.heap.size) ∧ (((∃ v, e = .returned v) ∧ (J U (selI name qs).length V ∨ ∃ j, j < (selI name qs).length ∧ Jx U (j + 1) V)) ∨ (e = .panicked D ∧ Jp U V)) :=
    fun e V h1 h2 => ⟨U0, fun k h => h, fun k h => .inl h, h1, h2⟩
  have hend' := Lib.hid hend
  have hEW' := Lib.hid hEW
  have hY' := Lib.hid hY
  have hJ' := Lib.hid hJ
  have h0' := Lib.hid h0
  have hq' := Lib.hid hq
  have hU0' := Lib.hid hU0
  have hcap' := Lib.hid hcap
  have hall : cntP (whereI name qs) (List.range qs.length) qs.length = (selI name qs).length := by
    unfold cntP selI
    rw [List.take_of_length_le (by simp)]
  have hall' := Lib.hid hall
  clear hE hEW hW hY hJ hJx hJp h0 hq hU0 hend hcap hall
  refine callsIn_of_wp Tryz.func172 rfl trivial ?_ rfl
  simp only [Tryz.ntmps172, List.size_toArray, List.length_cons, List.length_nil, Nat.reduceAdd, Nat.reduceSub, Array.replicate_succ, Array.replicate_zero, List.push_toArray, List.append_toArray, List.nil_append, List.cons_append]
  gi_wp2
  gi_loopw [4, 5, 8] (fun _ _ x V => ∃ k : Nat, k ≤ qs.length ∧ x = .int .i64 (k : Int) ∧ J U0 (cntP (whereI name qs) (List.range qs.length) k) V ∧ SfEnv V bT bW bN (.slice A qs.length c) qs name ∧ W.heap.size ≤ V.heap.size) (fun _ _ x _ => qs.length - (intOf x).toNat)
  case atStart => exact ⟨0, Nat.zero_le _, rfl, h0'.out, hEW'.out, Nat.le_refl _⟩
  case round =>
    obtain ⟨k, hk, rfl, hJk, hE, hz⟩ := hrel
    by_cases hlt : k < qs.length
    · have hltI : (k : Int) < (qs.length : Int) := by omega
      have hkr : k < (List.range qs.length).length := by simpa using hlt
      have hgk : (List.range qs.length)[k] = k := by simp
      obtain ⟨A', c', e', hpr⟩ := hE.row.prs
      injection e' with e1 e2 e3
      subst e1 e3
      obtain ⟨bk, o, rfl, hbl, hcs⟩ := hpr (by omega)
      obtain ⟨q, hqk⟩ : ∃ q, qs[k] = q := ⟨_, rfl⟩
      have hqd : qs.getD k ([], []) = q := by rw [List.getD_eq_getElem?_getD, List.getElem?_eq_getElem hlt, hqk]; rfl
      have hwh : whereI name qs k = Rr.isName name q := by unfold whereI; rw [hqd]
      obtain ⟨d0, d1⟩ := hcs k q (by rw [List.getElem?_eq_getElem hlt, hqk])
      have hql := hq'.out q (by rw [← hqk]; exact List.getElem_mem hlt)
      have hno := fun h : Rr.isName name q = false => cntP_no (p := whereI name qs) hkr (by rw [hgk, hwh, h])
      have hyes := fun h : Rr.isName name q = true => cntP_yes (p := whereI name qs) 0 hkr (by rw [hgk, hwh, h])
      rw [hgk] at hyes
      have hkU := Lib.hid (fun (V' : World) (hb : Below wr.heap.size wr V') => hJ'.out _ _ _ _ _ hJk (.of_below hb (fun k h => .inl h) (fun k h => by have := hU0'.out k h; have := hb.size; omega)))
      have hz' := Lib.hid hz
      clear hpr hcs hqk hJk
      obtain ⟨m, hm⟩ : ∃ m, cntP (whereI name qs) (List.range qs.length) k = m := ⟨_, rfl⟩
      rw [hm] at hyes hno hkU
      have hnw := Has.new wr 56 #[.string ⟨q.1.toArray⟩, .string ⟨q.2.toArray⟩]
      have hbw := (Below.refl wr.heap.size wr).alloc (Nat.le_refl _) (.cells #[.string ⟨q.1.toArray⟩, .string ⟨q.2.toArray⟩] 56)
      have hE4 := hE.below hbw
      obtain ⟨w4, hw4⟩ : ∃ w4, wr.alloc (.cells #[.string ⟨q.1.toArray⟩, .string ⟨q.2.toArray⟩] 56) = w4 := ⟨_, rfl⟩
      rw [hw4] at hnw hbw hE4
      have x0 := hnw.cell 0
      have x1 := hnw.cell 1
      have x2 := hE4.wanted.cell 0
      have hc := Lib.hid ((callsIn_wide (n := n - 1)).2 (named_any bN name q w4 hE4.name hn (by omega)))
      have hnw' := Lib.hid hnw
      have hbw' := Lib.hid hbw
      have hE4' := Lib.hid hE4
      clear hE hnw hbw hE4 hwh hm
      cases hb : Rr.isName name q with
      | false =>
        have hmm := Lib.hid (hno hb)
        rw [hb] at hc
        clear hno hyes hb hqd
        gi_wp2_with (gi_at_call 148; (with_reducible refine CallsIn.mono hc.out ?_); rintro e w5 ⟨rfl, hb5⟩; have hb5' := Lib.hid (hbw'.out.trans (hb5.mono hbw'.out.size)); have hE5 := Lib.hid (hE4'.out.below hb5); clear hb5)
        exact ⟨⟨k + 1, by omega, by go_num, by rw [hmm.out]; exact hkU.out _ hb5'.out, hE5.out, by have := hb5'.out.size; have := hz'.out; omega⟩, by simp [intOf]; omega⟩
      | true =>
        obtain ⟨hmm, hlt2, hget⟩ := hyes hb
        have hmm' := Lib.hid hmm
        have hlt' := Lib.hid hlt2
        have henc : Hid (encHd qs (selI name qs) m = #[.int .i64 (k : Int), .agg #[.string ⟨q.1.toArray⟩, .string ⟨q.2.toArray⟩]]) := Lib.hid (by
          have hget' : (selI name qs).getD m 0 = k := hget
          unfold encHd hdA idxA
          rw [hget', hqd])
        rw [hb] at hc
        clear hno hyes hb hqd hmm hlt2 hget
        gi_wp2_with (gi_at_call 148; (with_reducible refine CallsIn.mono hc.out ?_); rintro e w5 ⟨rfl, hb5⟩; have y0 := (hnw'.out.below hb5 hnw'.out.lt).cell 0; have y1 := (hnw'.out.below hb5 hnw'.out.lt).cell 1; have hb5' := Lib.hid (hbw'.out.trans (hb5.mono hbw'.out.size)); have hE5 := Lib.hid (hE4'.out.below hb5); obtain ⟨fn, tmps, assign, body, hy, hR⟩ := hY'.out U0 m w5 (hkU.out _ hb5'.out) hlt'.out (fun k h => by have := hU0'.out k h; have := hb5'.out.size; have := hz'.out; omega); rw [henc.out] at hy; have hy' : (Instr.yield l #[.int .i64 (k : Int), .agg #[.string ⟨q.1.toArray⟩, .string ⟨q.2.toArray⟩]]).run Tryz.prog w5 = .ok (Next.round l fn tmps assign body) w5 := hy; have hR' := Lib.hid hR; clear hb5 hy hR)
        refine hR'.out.mono ?_
        rintro e W3 ⟨hk3, (⟨rfl, hj3⟩ | ⟨rfl, hj3⟩ | ⟨rfl, hj3⟩)⟩
        · have hE3 := Lib.hid (hE5.out.kept hcap'.out hk3)
          have hz3 := Lib.hid (show W.heap.size ≤ W3.heap.size by have := hk3.size; have := hb5'.out.size; have := hz'.out; omega)
          have hj3' := Lib.hid hj3
          clear hk3 hj3
          gi_wp2
          exact ⟨⟨k + 1, by omega, by go_num, by rw [hmm'.out]; exact hj3'.out, hE3.out, hz3.out⟩, by simp [intOf]; omega⟩
        · have hz3 := Lib.hid (show ∀ k, U0 k → k < W3.heap.size from fun k h => by have := hU0'.out k h; have := hk3.size; have := hb5'.out.size; have := hz'.out; omega)
          have hj3' := Lib.hid hj3
          clear hk3 hj3
          gi_wp2
          exact bodyPost_ret (results_none rfl _ _ _) rfl (hend'.out _ _ hz3.out (.inl ⟨⟨_, rfl⟩, .inr ⟨m, hlt'.out, hj3'.out⟩⟩))
        · exact ⟨rfl, hend'.out _ _ (fun k h => by have := hU0'.out k h; have := hk3.size; have := hb5'.out.size; have := hz'.out; omega) (.inr ⟨rfl, hj3⟩)⟩
    · obtain rfl : k = qs.length := by omega
      have hj' := Lib.hid (show J U0 (selI name qs).length wr by rw [← hall'.out]; exact hJk)
      have hz2 := Lib.hid (show ∀ k, U0 k → k < wr.heap.size from fun k h => by have := hU0'.out k h; omega)
      clear hJk hE
      gi_wp2
      go_end0
      exact hend'.out _ _ hz2.out (.inl ⟨⟨_, rfl⟩, .inl hj'.out⟩)
end Go.Proofs.YtbmemkbfignlaaaGreatDoor

namespace Go.Proofs.YtbmemkbfignlaaaGreatDoor
open Go.RowKit Go.Shelf
attribute [local go_sem] Oper.semAt_some
attribute [local go_sem] wideF_fn wideF_depth wideF_round

/-! ## head.Each: the values of a name, one by one -/
theorem sifted_maker (F : Fn) (fa fb : Array Value) (A : Option Addr) (m c : Nat) (w : World) : Calls Tryz.prog 150 #[.func F fa fb, .slice A m c] w fun e w' => e = .returned (.func (.func 172) #[] #[.pointer (some ⟨w.heap.size + 1, 0, none⟩), .pointer (some ⟨w.heap.size, 0, none⟩)]) ∧ w' = (w.alloc (.cells #[.func F fa fb] 167)).alloc (.cells #[.slice A m c] 26) := by
  have hmf : ∀ (fn : Fn) (first cap : Array Value) (w : World), (Instr.makeFunc fn first cap).run Tryz.prog w = .ok (.func fn first cap) w := fun _ _ _ _ => rfl
  go_enter Tryz.func150, Tryz.ntmps150
  go_wp2
  go_ret
  exact ⟨rfl, rfl⟩
def encVl (qs : List PairL) (l : List Nat) (j : Nat) : Array Value := #[.int .i64 (idxA l j : Int), .string ⟨(hdA qs l j).2.toArray⟩]
/-- The round's variable: a box that the iterator over which one goes does not own. -/
def AxU {α : Type} (F : α → Nat → Act) (t : TypeId) (V : α → Array Value) (U : Nat → Prop) (x : α) (a' : Act) (W : World) : Prop := ∃ k, ¬ U k ∧ a' = F x k ∧ Has W k t (V x)
theorem axU_turn {α : Type} {F : α → Nat → Act} {t : TypeId} {V : α → Array Value} {U : Nat → Prop} {x : α} {a' : Act} {X Y : World} (h : AxU F t V U x a' X) (ht : TurnU U U X Y) : AxU F t V U x a' Y := by
  obtain ⟨k, h1, h2, h3⟩ := h
  exact ⟨k, h1, h2, ht.has h1 h3⟩
set_option maxRecDepth 100000 in
set_option maxHeartbeats 4000000 in
theorem each2_seq (n : Nat) (bNm bF bN : Nat) (v : Value) (qs : List PairL) (name : List UInt8) (hl : qs.length ≤ 900000) (hn : name.length ≤ 1000000) (hq : ∀ q ∈ qs, q.1.length ≤ 600000 ∧ q.2.length ≤ 600000) (w : World) (hE : SfEnv w bF bNm bN v qs name) :
    SeqU n Tryz.prog 149 #[.pointer (some ⟨bNm, 0, none⟩), .pointer (some ⟨bF, 0, none⟩)] (encVl qs (selI name qs)) (capS bF bNm bN v) (selI name qs).length w := by
  intro l J Jx D Jp U0 W hW hcap hU0 hJ hJx hJp hY h0
  have hEW := hE.below hW
  obtain ⟨A, c, hv, _⟩ := hEW.row.prs
  subst hv
  obtain ⟨b, hb⟩ : ∃ b, W.heap.size = b := ⟨_, rfl⟩
  obtain ⟨W1, hW1⟩ : ∃ W1, W.alloc (.cells #[.func (.yield l) #[] #[]] 168) = W1 := ⟨_, rfl⟩
  have hB1 : Below W.heap.size W W1 := by rw [← hW1]; exact (Below.refl _ _).alloc (Nat.le_refl _) _
  have kb : Has W1 b 168 #[.func (.yield l) #[] #[]] := by rw [← hW1, ← hb]; exact Has.new _ _ _
  have z1 : W1.heap.size = b + 1 := by rw [← hW1, World.size_alloc, hb]
  have hE1 := hEW.below hB1
  have c1 := hE1.wanted.cell 0
  have c2 := hE1.things.cell 0
  obtain ⟨W2, hW2⟩ : ∃ W2, (W1.alloc (.cells #[.func (.func 148) #[] #[.pointer (some ⟨bN, 0, none⟩)]] 167)).alloc (.cells #[.slice A qs.length c] 26) = W2 := ⟨_, rfl⟩
  have hp := sifted_maker (.func 148) #[] #[.pointer (some ⟨bN, 0, none⟩)] A qs.length c W1
  rw [hW2] at hp
  have hp1 : Has W2 (b + 1) 167 #[.func (.func 148) #[] #[.pointer (some ⟨bN, 0, none⟩)]] := by rw [← hW2, ← z1]; exact (Has.new _ _ _).alloc _
  have hp2 : Has W2 (b + 1 + 1) 26 #[.slice A qs.length c] := by
    have := Has.new (W1.alloc (.cells #[.func (.func 148) #[] #[.pointer (some ⟨bN, 0, none⟩)]] 167)) 26 #[.slice A qs.length c]
    rw [hW2, World.size_alloc, z1] at this
    exact this
  have hB2 : Below W1.heap.size W1 W2 := by rw [← hW2]; exact ((Below.refl _ _).alloc (Nat.le_refl _) _).alloc (by simp) _
  have z2 : W2.heap.size = b + 3 := by rw [← hW2]; simp [z1]
  have hBW2 : Below W.heap.size W W2 := hB1.trans (hB2.mono hB1.size)
  rw [z1] at hp
  have hE2' := hE1.below hB2
  have hE2 : SfEnv W2 (b + 1 + 1) (b + 1) bN (.slice A qs.length c) qs name := ⟨hp2, hp1, hE2'.name, hE2'.row⟩
  have hcapE : ∀ k, capS (b + 1 + 1) (b + 1) bN (.slice A qs.length c) k → k < W2.heap.size := hE2.cap
  have hcap2 : ∀ k, capS (b + 1 + 1) (b + 1) bN (.slice A qs.length c) k → U0 k ∨ k = b + 1 ∨ k = b + 1 + 1 := fun k hk => by
    rcases hk with h | h | h | h
    · exact .inr (.inr h)
    · exact .inr (.inl h)
    · exact .inl (hcap k (.inr (.inr (.inl h))))
    · exact .inl (hcap k (.inr (.inr (.inr h))))
  have hJ0 := Lib.hid (hJ U0 (extU U0 b (capS (b + 1 + 1) (b + 1) bN (.slice A qs.length c))) 0 W W2 h0 (.of_below hBW2 (fun k h => by
    rcases h with h | h | h
    · exact .inl h
    · right; omega
    · rcases hcap2 k h with h | h | h
      · exact .inl h
      all_goals (right; omega)) (fun k h => by
    rcases h with h | h | h
    · have := hU0 k h; omega
    · omega
    · exact hcapE k h)))
  have kb2 := Lib.hid (kb.below hB2 kb.lt)
  have hcb : ¬ capS (b + 1 + 1) (b + 1) bN (.slice A qs.length c) b := fun h => by
    rcases hcap2 b h with h | h | h
    · have := hU0 b h; omega
    all_goals omega
  have hp' := Lib.hid hp
  have hY' := Lib.hid hY
  have hJ' := Lib.hid hJ
  have hJx' := Lib.hid hJx
  have hJp' := Lib.hid hJp
  have hU0' := Lib.hid (fun k (h : U0 k) => show k < b by have := hU0 k h; omega)
  have hcapE' := Lib.hid hcapE
  have hcb' := Lib.hid hcb
  have hend : ∀ (e : Ending) (V : World) (U : Nat → Prop), (∀ k, U k → capS (b + 1 + 1) (b + 1) bN (.slice A qs.length c) k ∨ W2.heap.size ≤ k) → (∀ k, U k → k < V.heap.size) → b + 3 ≤ V.heap.size → (((∃ v, e = .returned v) ∧ (J (extU U0 b U) (selI name qs).length V ∨ ∃ j, j < (selI name qs).length ∧ Jx (extU U0 b U) (j + 1) V)) ∨ (e = .panicked D ∧ Jp (extU U0 b U) V)) →
      ∃ U, (∀ k, U0 k → U k) ∧ (∀ k, U k → U0 k ∨ W.heap.size ≤ k) ∧ (∀ k, U k → k < V.heap.size) ∧ (((∃ v, e = .returned v) ∧ (J U (selI name qs).length V ∨ ∃ j, j < (selI name qs).length ∧ Jx U (j + 1) V)) ∨ (e = .panicked D ∧ Jp U V)) :=
    fun e V U h1 h2 h3 h4 => ⟨extU U0 b U, fun k h => .inl h, fun k h => by
      rcases h with h | h | h
      · exact .inl h
      · right; omega
      · rcases h1 k h with h | h
        · rcases hcap2 k h with h | h | h
          · exact .inl h
          all_goals (right; omega)
        · right; omega, fun k h => by
      rcases h with h | h | h
      · have := hU0'.out k h; omega
      · omega
      · exact h2 k h, h4⟩
  have hend' := Lib.hid hend
  have hseq := Lib.hid (sift1_seq (n + 1) (b + 1 + 1) (b + 1) bN (.slice A qs.length c) qs name hl hn hq W2 hE2)
  have hvl : ∀ j, j < (selI name qs).length → (hdA qs (selI name qs) j).2.length ≤ 600000 := fun j hj => by
    have h := selI_lt hj
    unfold hdA idxA
    rw [List.getD_eq_getElem?_getD, List.getElem?_eq_getElem h]
    exact (hq _ (List.getElem_mem h)).2
  have hvl' := Lib.hid hvl
  clear hE1 hp1 hp2 hY hJ hJx hJp hU0 h0 hend hcapE hcap hBW2 hB2 hB1 kb hW2 hW hE2 hE2' hE hEW hq hp hcb hvl hcap2
  generalize selI name qs = sl at *
  refine calls_of_wpK Tryz.func149 rfl ?_
  simp only [Tryz.ntmps149, List.size_toArray, List.length_cons, List.length_nil, Nat.reduceAdd, Nat.reduceSub, Array.replicate_succ, Array.replicate_zero, List.push_toArray, List.append_toArray, List.nil_append, List.cons_append]
  refine wpK_after ?_
  go_wp2
  try rw [hW1]
  refine wpK_scope (wpK_after ?_)
  go_wp2
  go_step3
  refine wpK_after ?_
  go_wp2_with (go_at_call 150; (with_reducible refine Calls.mono hp'.out ?_); rintro e w3 ⟨rfl, hw3⟩; obtain rfl := hw3.symm)
  refine wpK_block ?_
  refine wpK_rangeB (n := n) (gf := 172) (lb := #[.pointer (some ⟨b + 1 + 1, 0, none⟩), .pointer (some ⟨b + 1, 0, none⟩)]) rfl (enters_of Tryz.func172 (by kernel_rfl) rfl)
    hseq.out (Below.refl _ _) hcapE'.out (fun _ => rfl)
    (fun U j V => J (extU U0 b U) j V ∧ Has V b 168 #[.func (.yield l) #[] #[]] ∧ ¬ U b ∧ b + 3 ≤ V.heap.size)
    (fun c U j V => c = .exit 0 ∧ Jx (extU U0 b U) j V ∧ ¬ U b ∧ b + 3 ≤ V.heap.size) D
    (fun U V => Jp (extU U0 b U) V ∧ ¬ U b ∧ b + 3 ≤ V.heap.size)
    ?i1 ?i2 ?i3 ⟨hJ0.out, kb2.out, hcb'.out, by omega⟩
    (AxU ?F 56 (fun j => #[.string ⟨(hdA qs sl j).1.toArray⟩, .string ⟨(hdA qs sl j).2.toArray⟩])) (fun _ _ _ _ _ h ht => axU_turn h ht) ?assign ?body ?done ?left ?gave
  case i1 =>
    rintro U U' j X Y ⟨h1, h2, h3, h4⟩ ht
    exact ⟨hJ'.out _ _ _ _ _ h1 (ht.ext (fun k hk => by have := hU0'.out k hk; omega) (by omega)), ht.has h3 h2, ht.out h3 (by omega), by have := ht.size; omega⟩
  case i2 =>
    rintro c U U' j X Y ⟨rfl, h1, h3, h4⟩ ht
    exact ⟨rfl, hJx'.out _ _ _ _ _ h1 (ht.ext (fun k hk => by have := hU0'.out k hk; omega) (by omega)), ht.out h3 (by omega), by have := ht.size; omega⟩
  case i3 =>
    rintro U U' X Y ⟨h1, h3, h4⟩ ht
    exact ⟨hJp'.out _ _ _ _ h1 (ht.ext (fun k hk => by have := hU0'.out k hk; omega) (by omega)), ht.out h3 (by omega), by have := ht.size; omega⟩
  case assign =>
    intro l2 U x V K hUl hI hx hK
    obtain ⟨h1, h2, h3, h4⟩ := hI
    have hK' := Lib.hid hK
    dsimp only [encHd]
    have hnew := Lib.hid (Has.new V 56 #[.string ⟨(hdA qs sl x).1.toArray⟩, .string ⟨(hdA qs sl x).2.toArray⟩])
    have hbl : Below V.heap.size V (V.alloc (.cells #[.string ⟨(hdA qs sl x).1.toArray⟩, .string ⟨(hdA qs sl x).2.toArray⟩] 56)) := (Below.refl _ _).alloc (Nat.le_refl _) _
    have hj5 := Lib.hid (hJ'.out _ _ _ _ _ h1 (.of_below hbl (fun k h => .inl h) (fun k h => by
      have := hbl.size
      rcases h with h | h | h
      · have := hU0'.out k h; omega
      · omega
      · have := hUl k h; omega)))
    have hh5 := Lib.hid (h2.below hbl h2.lt)
    have hUl' := Lib.hid hUl
    have hbl' := Lib.hid hbl
    have h3' := Lib.hid h3
    clear hK h1 h2 hUl hbl h3
    gi_wp2
    obtain ⟨k, hk⟩ : ∃ k, V.heap.size = k := ⟨_, rfl⟩
    have hn2 := hnew.out
    rw [hk] at hn2 ⊢
    refine hK'.out _ _ (KeptU.below hbl'.out hUl'.out) (fun k h => by have := hUl'.out k h; have := hbl'.out.size; omega) ⟨hj5.out, hh5.out, h3'.out, by have := hbl'.out.size; omega⟩ ⟨k, fun h => by have := hUl'.out k h; omega, ?_, hn2⟩
    rfl
  case body =>
    rintro l2 U j a' V hUl ⟨h1, h2, h3, h4⟩ ⟨k, hkU, rfl, hkb⟩ hj
    have hvj := hvl'.out j hj
    have henc : encVl qs sl j = #[.int .i64 (idxA sl j : Int), .string ⟨(hdA qs sl j).2.toArray⟩] := rfl
    have x0 := fun (V' : Grown V) => (h2.below V'.below h2.lt).cell 0
    have x1 := fun (V' : Grown V) => (hkb.below V'.below hkb.lt).cell 1
    have t1 := Lib.hid (fun (V' : Grown V) => CallsIn.inRound l2 (callsIn_wide (n := n - 1).2 (grow_call V' (show Calls Tryz.prog 56 #[.string ⟨(hdA qs sl j).2.toArray⟩] V'.v fun e w' => e = .returned (.string ⟨(hdA qs sl j).2.toArray⟩) ∧ Below V'.v.heap.size V'.v w' from cloneS_any ⟨(hdA qs sl j).2.toArray⟩ V'.v (by show (hdA qs sl j).2.length ≤ _; omega)))))
    have hyl := Lib.hid (fun (V' : Grown V) => hY'.out (extU U0 b U) j V'.v (hJ'.out _ _ _ _ _ h1 (.of_below V'.below (fun k h => .inl h) (fun k h => by
      have := V'.below.size
      rcases h with h | h | h
      · have := hU0'.out k h; omega
      · omega
      · have := hUl k h; omega))) hj (fun k h => by
      have := V'.below.size
      rcases h with h | h | h
      · have := hU0'.out k h; omega
      · omega
      · have := hUl k h; omega))
    have h2' := Lib.hid h2
    have h3' := Lib.hid h3
    have hUl' := Lib.hid hUl
    rw [henc] at hyl
    clear h1 h2 h3 hUl henc hkb
    gi_wp2
    refine wpIn_region_grow_tail 5 (by kernel_rfl) (by kernel_rfl) (by kernel_rfl) ?_
    simp only [List.take_succ_cons, List.take_zero, List.drop_succ_cons, List.drop_zero]
    iterate 5 (gi_big_quiet_step ((gi_at_call 56; exact t1.out _)))
    refine wpQuietIn_nil ?_
    intro _ hw'
    obtain ⟨V', hw''⟩ := hw'
    subst hw''
    obtain ⟨fn, tmps, assign, body, hy, hR⟩ := hyl.out V'
    have hR' := Lib.hid (round_any (m' := n - 1) (l' := l2) hR)
    clear hR
    have hbV := Lib.hid V'.below
    have hj' := Lib.hid hj
    have hJr : ∀ {V3 : World}, KeptU (extU U0 b U) V'.v V3 → KeptU U V V3 := fun h => (KeptU.below V'.below hUl'.out).trans (h.mono (fun k hk => .inr (.inr hk)))
    have hbr : ∀ {V3 : World}, KeptU (extU U0 b U) V'.v V3 → Has V3 b 168 #[.func (.yield l) #[] #[]] ∧ b + 3 ≤ V3.heap.size := fun h => ⟨h.has (.inr (.inl rfl)) (h2'.out.below V'.below h2'.out.lt), by have := h.size; have := V'.below.size; omega⟩
    gi_wp2
    refine hR'.out.mono ?_
    rintro e V3 ⟨hk3, (⟨rfl, hj3⟩ | ⟨rfl, hj3⟩ | ⟨rfl, hj3⟩)⟩
    · have q1 := Lib.hid (hJr hk3)
      have q2 := Lib.hid (hbr hk3)
      have hj3' := Lib.hid hj3
      clear hk3 hj3 hJr hbr
      gi_wp2
      exact ⟨q1.out, hj3'.out, q2.out.1, h3'.out, q2.out.2⟩
    · have q1 := Lib.hid (hJr hk3)
      have q2 := Lib.hid (hbr hk3)
      have hj3' := Lib.hid hj3
      clear hk3 hj3 hJr hbr
      gi_wp2
      exact ⟨q1.out, rfl, hj3'.out, h3'.out, q2.out.2⟩
    · exact ⟨rfl, rfl, hJr hk3, hj3, h3'.out, (hbr hk3).2⟩
  case done =>
    rintro U d V hd hUd hU1 hU2 hUl ⟨h1, h2, h3, h4⟩ hk
    have ht := collected_out hUd hk hUl
    refine ⟨by simp, .inl ⟨_, _, rfl, run_takeDeferred hk, ?_⟩⟩
    refine ⟨.tuple #[], results_none rfl _ _ _, hend'.out _ _ U hU2 ht.lt (by have := ht.size; omega) (.inl ⟨⟨_, rfl⟩, .inl (hJ'.out _ _ _ _ _ h1 (ht.ext (fun k hk => by have := hU0'.out k hk; omega) (by omega)))⟩)⟩
  case left =>
    rintro c U d j V hd hUd hU1 hU2 hUl hj ⟨rfl, h1, h3, h4⟩ hk
    have ht := collected_out hUd hk hUl
    refine wpK_of (wp_exit ?_)
    refine ⟨by simp, .inl ⟨_, _, rfl, run_takeDeferred hk, ?_⟩⟩
    refine ⟨.tuple #[], results_none rfl _ _ _, hend'.out _ _ U hU2 ht.lt (by have := ht.size; omega) (.inl ⟨⟨_, rfl⟩, .inr ⟨j, hj, hJx'.out _ _ _ _ _ h1 (ht.ext (fun k hk => by have := hU0'.out k hk; omega) (by omega))⟩⟩)⟩
  case gave =>
    rintro U d V hd hUd hU2 hUl ⟨h1, h3, h4⟩ hk
    have ht := collected_out hUd hk hUl
    refine ⟨by simp, .inl ⟨_, _, rfl, run_takeDeferred hk, ?_⟩⟩
    exact hend'.out _ _ U hU2 ht.lt (by have := ht.size; omega) (.inr ⟨rfl, hJp'.out _ _ _ _ h1 (ht.ext (fun k hk => by have := hU0'.out k hk; omega) (by omega))⟩)
end Go.Proofs.YtbmemkbfignlaaaGreatDoor
