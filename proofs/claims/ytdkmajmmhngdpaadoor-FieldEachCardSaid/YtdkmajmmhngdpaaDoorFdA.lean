import Derived.Test.YtdkmajmmhngdpaaDoorL
import Derived.Test.YtdkmajmmhngdpaaDoorProg
import Derived.WalkSpells
import Derived.WalkLawsBesides
import Derived.Maps.Own
import Derived.Maps.OwnSet
namespace Go.Proofs.YtdkmajmmhngdpaaDoor
open Go.RowKit Go.Maps

/-! ## A region in whatever order: by what holds of those operations that are done -/
theorem wpAny_inv {P : Program} {ops : Array Oper} {Q : Exit → Act → World → Prop} {md : Region.Mode} (I : Array Bool → Act → World → Prop)
    (hend : ∀ listed a w, listed.size = ops.size → I listed a w → Region.ready md ops listed = [] → Q .normal a w)
    (hstep : ∀ listed a w i, listed.size = ops.size → i ∈ Region.ready md ops listed → I listed a w → wpOp P ops Q i (I (listed.setIfInBounds i true)) a w) :
    ∀ (fuel : Nat) (listed : Array Bool) (a : Act) (w : World), listed.size = ops.size → listed.toList.count false ≤ fuel → I listed a w → wpAny P md ops Q fuel listed a w
  | 0, listed, a, w, hs, hf, hI => by
    have hr : Region.ready md ops listed = [] := by
      refine List.eq_nil_iff_forall_not_mem.2 fun i hi => ?_
      obtain ⟨h1, _⟩ := mem_ready.1 hi
      have hlt : i < listed.size := by
        rcases Nat.lt_or_ge i listed.size with h | h
        · exact h
        · simp [Array.getD, show ¬ i < listed.size by omega] at h1
      have : false ∈ listed.toList := by
        rw [Array.mem_toList_iff]
        refine Array.mem_iff_getElem.2 ⟨i, hlt, ?_⟩
        simpa [Array.getD, hlt] using h1
      have := List.count_pos_iff.2 this
      omega
    exact ⟨hr, hend _ _ _ hs hI hr⟩
  | fuel + 1, listed, a, w, hs, hf, hI => by
    refine ⟨fun hr => hend _ _ _ hs hI hr, fun i hi => ?_⟩
    obtain ⟨h1, _⟩ := mem_ready.1 hi
    have hlt : i < listed.size := by
      rcases Nat.lt_or_ge i listed.size with h | h
      · exact h
      · simp [Array.getD, show ¬ i < listed.size by omega] at h1
    have hv : listed.toList[i]'(by simpa using hlt) = false := by
      have : listed[i] = false := by simpa [Array.getD, hlt] using h1
      simpa using this
    have hc : (listed.setIfInBounds i true).toList.count false ≤ fuel := by
      have e : (listed.setIfInBounds i true).toList = listed.toList.set i true := by simp
      rw [e, List.count_set (by simpa using hlt)]
      simp [hv]
      simp at hf
      omega
    exact wpOp_mono (fun a' w' h => wpAny_inv I hend hstep fuel _ a' w' (by simpa using hs) hc h) (hstep _ _ _ _ hs hi hI)
/-- Where each operation rests on earlier ones alone, nothing is ready just if all is done. -/
def backB (md : Region.Mode) (ops : Array Oper) : Bool := ops.toList.zipIdx.all fun (o, j) => o.after.all fun e => !Region.binds md e || decide (e.on < j)
theorem all_done {ops : Array Oper} {md : Region.Mode} (hb : backB md ops = true) {listed : Array Bool} (hs : listed.size = ops.size) (hr : Region.ready md ops listed = []) : ∀ j, j < ops.size → listed.getD j false = true := by
  intro j
  induction j using Nat.strongRecOn with
  | ind j ih =>
    intro hj
    cases hl : listed.getD j false with
    | true => rfl
    | false =>
      have hjl : j < listed.size := by omega
      have hm : j ∈ Region.ready md ops listed := by
        refine mem_ready.2 ⟨?_, ops[j], by simp, fun e he hbd => ?_⟩
        · simpa [Array.getD, hjl] using hl
        · unfold backB at hb
          rw [List.all_eq_true] at hb
          have := hb (ops[j], j) (by rw [List.mk_mem_zipIdx_iff_getElem?]; simp)
          simp only [Array.all_eq_true_iff_forall_mem] at this
          have := this e he
          simp [hbd] at this
          exact ih _ this (by omega)
      rw [hr] at hm
      exact absurd hm (List.not_mem_nil)
/-! ## The map of Kinds -/
def namesL : List (List UInt8) := [[], [101, 110, 100], [99, 111, 109, 109, 101, 110, 116], [100, 97, 116, 97], [101, 118, 101, 110, 116], [105, 100], [114, 101, 116, 114, 121], [111, 116, 104, 101, 114]]
/-- The table of Kinds' names lies as its text lays it. -/
def NamesT (W : World) : Prop := ∃ t, W.heap[1]? = some (.cells (namesL.map fun s => Value.string ⟨s.toArray⟩).toArray t (0, 0))
theorem NamesT.below {W W' : World} (h : NamesT W) (hb : Below W.heap.size W W') : NamesT W' := by
  obtain ⟨t, h⟩ := h
  exact ⟨t, (hb.block _ (Array.getElem?_eq_some_iff.1 h).1).trans h⟩
theorem NamesT.lt {W : World} (h : NamesT W) : 1 < W.heap.size := by
  obtain ⟨t, h⟩ := h
  exact (Array.getElem?_eq_some_iff.1 h).1
theorem keysK : Keyed Tryd.prog 9 := string_keyed Tryd.underlying9
noncomputable def kElem : Value → Option (DataW Unit × List MemPlace) := plainElem Tryd.prog 35
def kOne (b : Bool) (i : Nat) : List (Lit × DataW Unit) := if b then [(.string (namesL.getD i []), .lit (.int .i64 (i : Int)))] else []
/-- What the map reads as when some names are in it. -/
def KD (b3 b4 b5 b6 : Bool) : DataW Unit := .map (kOne b3 3 ++ kOne b4 4 ++ kOne b5 5 ++ kOne b6 6)
theorem kd3 (y z u : Bool) : (KD false y z u).put (.string [100, 97, 116, 97]) (.lit (.int .i64 3)) = KD true y z u := by cases y <;> cases z <;> cases u <;> rfl
theorem kd4 (x z u : Bool) : (KD x false z u).put (.string [101, 118, 101, 110, 116]) (.lit (.int .i64 4)) = KD x true z u := by cases x <;> cases z <;> cases u <;> rfl
theorem kd5 (x y u : Bool) : (KD x y false u).put (.string [105, 100]) (.lit (.int .i64 5)) = KD x y true u := by cases x <;> cases y <;> cases u <;> rfl
theorem kd6 (x y z : Bool) : (KD x y z false).put (.string [114, 101, 116, 114, 121]) (.lit (.int .i64 6)) = KD x y z true := by cases x <;> cases y <;> cases z <;> rfl
/-- What holds while the map is filled. -/
def KI (w0 : World) (l : Array Bool) (a : Act) (W : World) : Prop :=
  ∃ (b : Nat) (t0 t1 t2 t3 t4 t5 t6 t7 t8 t9 t10 : Value), a = { tmps := #[t0, t1, t2, t3, t4, t5, t6, t7, t8, t9, t10], defers := [] } ∧ w0.heap.size ≤ b ∧ Below w0.heap.size w0 W ∧
    (l.getD 0 false = true → t1 = .map (some b) ∧ W.ownsMap Tryd.prog 9 kElem b 4 (KD (l.getD 3 false) (l.getD 6 false) (l.getD 9 false) (l.getD 12 false))) ∧
    (l.getD 0 false = false → l.getD 3 false = false ∧ l.getD 6 false = false ∧ l.getD 9 false = false ∧ l.getD 12 false = false ∧ l.getD 13 false = false ∧ l.getD 14 false = false) ∧
    (l.getD 1 false = true → t2 = .pointer (some ⟨1, 3, none⟩)) ∧ (l.getD 2 false = true → t3 = .string ⟨#[100, 97, 116, 97]⟩) ∧
    (l.getD 4 false = true → t4 = .pointer (some ⟨1, 4, none⟩)) ∧ (l.getD 5 false = true → t5 = .string ⟨#[101, 118, 101, 110, 116]⟩) ∧
    (l.getD 7 false = true → t6 = .pointer (some ⟨1, 5, none⟩)) ∧ (l.getD 8 false = true → t7 = .string ⟨#[105, 100]⟩) ∧
    (l.getD 10 false = true → t8 = .pointer (some ⟨1, 6, none⟩)) ∧ (l.getD 11 false = true → t9 = .string ⟨#[114, 101, 116, 114, 121]⟩) ∧
    (l.getD 13 false = true → t10 = .map (some b)) ∧ (l.getD 14 false = true → t0 = .map (some b))
theorem getD_set {l : Array Bool} {i : Nat} (h : i < l.size) (j : Nat) : (l.setIfInBounds i true).getD j false = if j = i then true else l.getD j false := by
  simp only [Array.getD_eq_getD_getElem?, Array.getElem?_setIfInBounds]
  by_cases e : i = j
  · subst e; simp [h]
  · rw [if_neg e, if_neg (fun h => e h.symm)]
/-- Of a map of four entries at most that grows by one, by its reading. -/
theorem own_four {W : World} {b : Nat} {D : DataW Unit} {n : Nat} (h : W.ownsMap Tryd.prog 9 kElem b n D) {es : List (Lit × DataW Unit)} (hD : D = .map es) (hl : es.length ≤ 4) : W.ownsMap Tryd.prog 9 kElem b 4 D := by
  obtain ⟨e, clock, hb, F, hs, hd⟩ := h
  refine ⟨e, clock, hb, F, ?_, hd⟩
  have e1 : e.size = ((e.toList.map (WideElems.rg Tryd.prog 9 kElem)).foldr DataW.insert []).length := by rw [length_sorted]; simp
  rw [hD] at hd
  injection hd with hd
  rw [e1, ← hd]
  exact hl
theorem kd_len (x y z u : Bool) : (kOne x 3 ++ kOne y 4 ++ kOne z 5 ++ kOne u 6).length ≤ 4 := by cases x <;> cases y <;> cases z <;> cases u <;> decide
set_option maxRecDepth 100000 in
theorem kinds_any (w : World) (hN : NamesT w) : Calls Tryd.prog 108 #[] w fun e w' => ∃ b, e = .returned (.map (some b)) ∧ w'.ownsMap Tryd.prog 9 kElem b 4 (KD true true true true) ∧ Below w.heap.size w w' := by
  go_enter Tryd.func108, Tryd.ntmps108
  go_wp2
  refine wp_region_any (by kernel_rfl) ?_
  refine wpAny_inv (KI w) ?_ ?_ _ _ _ _ rfl (by decide) ?_
  · intro l a W hs hI hr
    have hd := all_done (by kernel_rfl) hs hr
    obtain ⟨b, t0, t1, t2, t3, t4, t5, t6, t7, t8, t9, t10, rfl, hb, hB, h0, _, _, _, _, _, _, _, _, _, _, h14⟩ := hI
    obtain ⟨_, hown⟩ := h0 (hd 0 (by decide))
    obtain rfl := h14 (hd 14 (by decide))
    rw [hd 3 (by decide), hd 6 (by decide), hd 9 (by decide), hd 12 (by decide)] at hown
    have hown' := Lib.hid hown
    have hB' := Lib.hid hB
    clear hown hB hd h0 h14 hr
    go_wp2
    go_ret
    exact ⟨b, rfl, hown'.out, hB'.out⟩
  · intro l a W i hs hi hI
    obtain ⟨hi1, o, ho, hdep⟩ := mem_ready.1 hi
    have hil : i < l.size := by
      rcases Nat.lt_or_ge i l.size with h | h
      · exact h
      · simp [Array.getD, show ¬ i < l.size by omega] at hi1
    have hil2 : i < 15 := by rw [hs] at hil; exact hil
    have hst := getD_set hil
    obtain ⟨b, t0, t1, t2, t3, t4, t5, t6, t7, t8, t9, t10, rfl, hb, hB, h0, hn, h1, h2, h4, h5, h7, h8, h10, h11, h13, h14⟩ := hI
    have hNW := hN.below hB
    obtain ⟨nt, hnt⟩ := hNW
    have c3 := cell_of_row W 1 3 _ nt (0, 0) hnt
    have c4 := cell_of_row W 1 4 _ nt (0, 0) hnt
    have c5 := cell_of_row W 1 5 _ nt (0, 0) hnt
    have c6 := cell_of_row W 1 6 _ nt (0, 0) hnt
    simp [namesL] at c3 c4 c5 c6
    rcases (by omega : i = 0 ∨ i = 1 ∨ i = 2 ∨ i = 3 ∨ i = 4 ∨ i = 5 ∨ i = 6 ∨ i = 7 ∨ i = 8 ∨ i = 9 ∨ i = 10 ∨ i = 11 ∨ i = 12 ∨ i = 13 ∨ i = 14) with rfl | rfl | rfl | rfl | rfl | rfl | rfl | rfl | rfl | rfl | rfl | rfl | rfl | rfl | rfl
    · obtain ⟨n3, n6, n9, n12, n13, n14⟩ := hn (by simpa [Array.getD, hil] using hi1)
      clear hnt hi ho hdep
      have hrm := run_makeMap (P := Tryd.prog) 129 W
      simp [wpOp, Region.wanted, Oper.wp, execOp, go_sem, hrm]
      refine .inl ⟨W.heap.size, _, _, _, _, _, _, _, _, _, _, _, rfl, hB.size, hB.alloc hB.size _, ?_, ?_, ?_, ?_, ?_, ?_, ?_, ?_, ?_, ?_, ?_, ?_⟩ <;> (simp only [hst, Nat.reduceEqDiff, reduceIte]; first | assumption | skip)
      · intro _
        rw [n3, n6, n9, n12]
        exact ⟨trivial, (World.ownsMap_made W Tryd.prog 9 kElem).mono (by decide)⟩
      · intro h; cases h
      · intro h; rw [n13] at h; cases h
      · intro h; rw [n14] at h; cases h
    · clear hnt hi ho hdep
      simp [wpOp, Region.wanted, Oper.wp, execOp, go_sem]
      refine .inl ⟨b, _, _, _, _, _, _, _, _, _, _, _, rfl, hb, hB, ?_, ?_, ?_, ?_, ?_, ?_, ?_, ?_, ?_, ?_, ?_, ?_⟩ <;> (simp only [hst, Nat.reduceEqDiff, reduceIte]; first | assumption | (intro _; first | rfl | trivial))
    · clear hnt hi
      simp at ho
      subst ho
      have d1 := hdep ⟨1, .data⟩ (by simp) rfl
      obtain rfl := h1 d1
      simp [wpOp, Region.wanted, Oper.wp, execOp, go_sem, c3]
      refine .inl ⟨b, _, _, _, _, _, _, _, _, _, _, _, rfl, hb, hB, ?_, ?_, ?_, ?_, ?_, ?_, ?_, ?_, ?_, ?_, ?_, ?_⟩ <;> (simp only [hst, Nat.reduceEqDiff, reduceIte]; first | assumption | (intro _; first | rfl | trivial))
    · clear hnt hi
      simp at ho
      subst ho
      have d0 := hdep ⟨0, .data⟩ (by simp) rfl
      have d2 := hdep ⟨2, .data⟩ (by simp) rfl
      have hf : l.getD 3 false = false := by simpa [Array.getD, hil] using hi1
      obtain ⟨rfl, hown⟩ := h0 d0
      obtain rfl := h2 d2
      rw [hf] at hown
      obtain ⟨w', hrun, r1, r2⟩ := hown.update keysK Tryd.underlying129 (by decide) (key := .string ⟨#[100, 97, 116, 97]⟩) (val := .int .i64 3) (kl := .string [100, 97, 116, 97]) (d := .lit (.int .i64 3)) (ps := []) (WideMaps.keyOf_string_mk Tryd.underlying9 (by decide)) (plainElem_int Tryd.underlying35 (by decide))
      rw [kd3] at r1
      have r1 := own_four r1 rfl (kd_len _ _ _ _)
      simp [wpOp, Region.wanted, Oper.wp, execOp, go_sem, hrun]
      refine .inl ⟨b, _, _, _, _, _, _, _, _, _, _, _, rfl, hb, hB.grown r2 hB.size (fun g e => by cases e; exact hb), ?_, ?_, ?_, ?_, ?_, ?_, ?_, ?_, ?_, ?_, ?_, ?_⟩ <;> (simp only [hst, Nat.reduceEqDiff, reduceIte]; first | assumption | exact fun _ => ⟨rfl, r1⟩ | exact fun _ => ⟨trivial, r1⟩ | exact (fun h => by rw [d0] at h; cases h) | (intro _; first | rfl | trivial))
    · clear hnt hi ho hdep
      simp [wpOp, Region.wanted, Oper.wp, execOp, go_sem]
      refine .inl ⟨b, _, _, _, _, _, _, _, _, _, _, _, rfl, hb, hB, ?_, ?_, ?_, ?_, ?_, ?_, ?_, ?_, ?_, ?_, ?_, ?_⟩ <;> (simp only [hst, Nat.reduceEqDiff, reduceIte]; first | assumption | (intro _; first | rfl | trivial))
    · clear hnt hi
      simp at ho
      subst ho
      have d4 := hdep ⟨4, .data⟩ (by simp) rfl
      obtain rfl := h4 d4
      simp [wpOp, Region.wanted, Oper.wp, execOp, go_sem, c4]
      refine .inl ⟨b, _, _, _, _, _, _, _, _, _, _, _, rfl, hb, hB, ?_, ?_, ?_, ?_, ?_, ?_, ?_, ?_, ?_, ?_, ?_, ?_⟩ <;> (simp only [hst, Nat.reduceEqDiff, reduceIte]; first | assumption | (intro _; first | rfl | trivial))
    · clear hnt hi
      simp at ho
      subst ho
      have d0 := hdep ⟨0, .data⟩ (by simp) rfl
      have d5 := hdep ⟨5, .data⟩ (by simp) rfl
      have hf : l.getD 6 false = false := by simpa [Array.getD, hil] using hi1
      obtain ⟨rfl, hown⟩ := h0 d0
      obtain rfl := h5 d5
      rw [hf] at hown
      obtain ⟨w', hrun, r1, r2⟩ := hown.update keysK Tryd.underlying129 (by decide) (key := .string ⟨#[101, 118, 101, 110, 116]⟩) (val := .int .i64 4) (kl := .string [101, 118, 101, 110, 116]) (d := .lit (.int .i64 4)) (ps := []) (WideMaps.keyOf_string_mk Tryd.underlying9 (by decide)) (plainElem_int Tryd.underlying35 (by decide))
      rw [kd4] at r1
      have r1 := own_four r1 rfl (kd_len _ _ _ _)
      simp [wpOp, Region.wanted, Oper.wp, execOp, go_sem, hrun]
      refine .inl ⟨b, _, _, _, _, _, _, _, _, _, _, _, rfl, hb, hB.grown r2 hB.size (fun g e => by cases e; exact hb), ?_, ?_, ?_, ?_, ?_, ?_, ?_, ?_, ?_, ?_, ?_, ?_⟩ <;> (simp only [hst, Nat.reduceEqDiff, reduceIte]; first | assumption | exact fun _ => ⟨rfl, r1⟩ | exact fun _ => ⟨trivial, r1⟩ | exact (fun h => by rw [d0] at h; cases h) | (intro _; first | rfl | trivial))
    · clear hnt hi ho hdep
      simp [wpOp, Region.wanted, Oper.wp, execOp, go_sem]
      refine .inl ⟨b, _, _, _, _, _, _, _, _, _, _, _, rfl, hb, hB, ?_, ?_, ?_, ?_, ?_, ?_, ?_, ?_, ?_, ?_, ?_, ?_⟩ <;> (simp only [hst, Nat.reduceEqDiff, reduceIte]; first | assumption | (intro _; first | rfl | trivial))
    · clear hnt hi
      simp at ho
      subst ho
      have d7 := hdep ⟨7, .data⟩ (by simp) rfl
      obtain rfl := h7 d7
      simp [wpOp, Region.wanted, Oper.wp, execOp, go_sem, c5]
      refine .inl ⟨b, _, _, _, _, _, _, _, _, _, _, _, rfl, hb, hB, ?_, ?_, ?_, ?_, ?_, ?_, ?_, ?_, ?_, ?_, ?_, ?_⟩ <;> (simp only [hst, Nat.reduceEqDiff, reduceIte]; first | assumption | (intro _; first | rfl | trivial))
    · clear hnt hi
      simp at ho
      subst ho
      have d0 := hdep ⟨0, .data⟩ (by simp) rfl
      have d8 := hdep ⟨8, .data⟩ (by simp) rfl
      have hf : l.getD 9 false = false := by simpa [Array.getD, hil] using hi1
      obtain ⟨rfl, hown⟩ := h0 d0
      obtain rfl := h8 d8
      rw [hf] at hown
      obtain ⟨w', hrun, r1, r2⟩ := hown.update keysK Tryd.underlying129 (by decide) (key := .string ⟨#[105, 100]⟩) (val := .int .i64 5) (kl := .string [105, 100]) (d := .lit (.int .i64 5)) (ps := []) (WideMaps.keyOf_string_mk Tryd.underlying9 (by decide)) (plainElem_int Tryd.underlying35 (by decide))
      rw [kd5] at r1
      have r1 := own_four r1 rfl (kd_len _ _ _ _)
      simp [wpOp, Region.wanted, Oper.wp, execOp, go_sem, hrun]
      refine .inl ⟨b, _, _, _, _, _, _, _, _, _, _, _, rfl, hb, hB.grown r2 hB.size (fun g e => by cases e; exact hb), ?_, ?_, ?_, ?_, ?_, ?_, ?_, ?_, ?_, ?_, ?_, ?_⟩ <;> (simp only [hst, Nat.reduceEqDiff, reduceIte]; first | assumption | exact fun _ => ⟨rfl, r1⟩ | exact fun _ => ⟨trivial, r1⟩ | exact (fun h => by rw [d0] at h; cases h) | (intro _; first | rfl | trivial))
    · clear hnt hi ho hdep
      simp [wpOp, Region.wanted, Oper.wp, execOp, go_sem]
      refine .inl ⟨b, _, _, _, _, _, _, _, _, _, _, _, rfl, hb, hB, ?_, ?_, ?_, ?_, ?_, ?_, ?_, ?_, ?_, ?_, ?_, ?_⟩ <;> (simp only [hst, Nat.reduceEqDiff, reduceIte]; first | assumption | (intro _; first | rfl | trivial))
    · clear hnt hi
      simp at ho
      subst ho
      have d10 := hdep ⟨10, .data⟩ (by simp) rfl
      obtain rfl := h10 d10
      simp [wpOp, Region.wanted, Oper.wp, execOp, go_sem, c6]
      refine .inl ⟨b, _, _, _, _, _, _, _, _, _, _, _, rfl, hb, hB, ?_, ?_, ?_, ?_, ?_, ?_, ?_, ?_, ?_, ?_, ?_, ?_⟩ <;> (simp only [hst, Nat.reduceEqDiff, reduceIte]; first | assumption | (intro _; first | rfl | trivial))
    · clear hnt hi
      simp at ho
      subst ho
      have d0 := hdep ⟨0, .data⟩ (by simp) rfl
      have d11 := hdep ⟨11, .data⟩ (by simp) rfl
      have hf : l.getD 12 false = false := by simpa [Array.getD, hil] using hi1
      obtain ⟨rfl, hown⟩ := h0 d0
      obtain rfl := h11 d11
      rw [hf] at hown
      obtain ⟨w', hrun, r1, r2⟩ := hown.update keysK Tryd.underlying129 (by decide) (key := .string ⟨#[114, 101, 116, 114, 121]⟩) (val := .int .i64 6) (kl := .string [114, 101, 116, 114, 121]) (d := .lit (.int .i64 6)) (ps := []) (WideMaps.keyOf_string_mk Tryd.underlying9 (by decide)) (plainElem_int Tryd.underlying35 (by decide))
      rw [kd6] at r1
      have r1 := own_four r1 rfl (kd_len _ _ _ _)
      simp [wpOp, Region.wanted, Oper.wp, execOp, go_sem, hrun]
      refine .inl ⟨b, _, _, _, _, _, _, _, _, _, _, _, rfl, hb, hB.grown r2 hB.size (fun g e => by cases e; exact hb), ?_, ?_, ?_, ?_, ?_, ?_, ?_, ?_, ?_, ?_, ?_, ?_⟩ <;> (simp only [hst, Nat.reduceEqDiff, reduceIte]; first | assumption | exact fun _ => ⟨rfl, r1⟩ | exact fun _ => ⟨trivial, r1⟩ | exact (fun h => by rw [d0] at h; cases h) | (intro _; first | rfl | trivial))
    · clear hnt hi
      simp at ho
      subst ho
      have d0 := hdep ⟨0, .data⟩ (by simp) rfl
      obtain ⟨rfl, hown⟩ := h0 d0
      simp [wpOp, Region.wanted, Oper.wp, execOp, go_sem]
      refine .inl ⟨b, _, _, _, _, _, _, _, _, _, _, _, rfl, hb, hB, ?_, ?_, ?_, ?_, ?_, ?_, ?_, ?_, ?_, ?_, ?_, ?_⟩ <;> (simp only [hst, Nat.reduceEqDiff, reduceIte]; first | assumption | exact fun _ => ⟨rfl, hown⟩ | exact fun _ => ⟨trivial, hown⟩ | exact (fun h => by rw [d0] at h; cases h) | (intro _; first | rfl | trivial))
    · clear hnt hi
      simp at ho
      subst ho
      have d13 := hdep ⟨13, .data⟩ (by simp) rfl
      have d0 := hdep ⟨0, .phase⟩ (by simp) rfl
      obtain rfl := h13 d13
      simp [wpOp, Region.wanted, Oper.wp, execOp, go_sem]
      refine .inl ⟨b, _, _, _, _, _, _, _, _, _, _, _, rfl, hb, hB, ?_, ?_, ?_, ?_, ?_, ?_, ?_, ?_, ?_, ?_, ?_, ?_⟩ <;> (simp only [hst, Nat.reduceEqDiff, reduceIte]; first | assumption | exact (fun h => by rw [d0] at h; cases h) | (intro _; first | rfl | trivial))
  · refine ⟨w.heap.size, _, _, _, _, _, _, _, _, _, _, _, rfl, Nat.le_refl _, (Below.refl _ w).drew, ?_⟩
    simp [Array.getD]
end Go.Proofs.YtdkmajmmhngdpaaDoor
