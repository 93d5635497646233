import Derived.Test.YthdmmlaahjgijaaDoorP
import Derived.Lib.SlBytesConst
namespace Go.Proofs.YthdmmlaahjgijaaDoor
open Go.RowKit Go.Shelf
attribute [local go_sem] Oper.semAt_some
attribute [local go_sem] wide_fn wide_depth wide_round

/-! ## The chapter's rows -/
theorem num_any (e : Int) (w : World) : Calls Tryd.prog 24 #[.int .i64 e] w fun r w' => r = .returned (.int .i64 e) ∧ w = w' := by
  go_enter Tryd.func24, Tryd.ntmps24
  go_wp2
  go_ret
  exact ⟨rfl, rfl⟩
/-- A literal of bytes. -/
theorem lit_rd (w : World) (l : List UInt8) : Rd (w.alloc (.cells (byts l).toArray 5)) (· < (w.alloc (.cells (byts l).toArray 5)).heap.size) (some ⟨w.heap.size, 0, none⟩) l :=
  ((Has.new w 5 (byts l).toArray).rd).mono fun b hb => by subst hb; simp
theorem e1 : run4 ([] ++ [226, 130]) = ([], [226, 130]) := by decide +kernel
theorem e2 : run4 ([226, 130] ++ [172, 97]) = ([226, 130, 172, 97], []) := by decide +kernel
theorem o1 : ofB [97, 195, 169, 255, 98] = [97, 195, 169, 239, 191, 189, 98] := by decide +kernel
theorem o2 : ofB [226, 130, 98] = [239, 191, 189, 98] := by decide +kernel
theorem o3 : ofB [240, 159, 152] = [239, 191, 189] := by decide +kernel
theorem o4 : ofB [237, 160, 128] = [239, 191, 189, 239, 191, 189, 239, 191, 189] := by decide +kernel
theorem o5 : ofB [192, 128] = [239, 191, 189, 239, 191, 189] := by decide +kernel
def s0 : ByteArray := ⟨#[97, 255, 195, 169]⟩
theorem p0 : placesFrom s0.data.toList 0 = [0, 1, 2] := by decide +kernel
theorem q0 : (lookAt s0.data.toList 0).point = 97 ∧ (lookAt s0.data.toList 1).point = 65533 ∧ (lookAt s0.data.toList 2).point = 233 := by decide +kernel
/-- A literal of bytes comes. -/
theorem write_lit (d n : Nat) (ws lit tl ws' : List UInt8) (cs : Array Value) (w : World) (hd : Dec w d ws) (hT : Tab w) (hrun : run4 (ws ++ lit) = (tl, ws')) (hcs : (byts lit).toArray = cs) (hn : n = lit.length) (hl : lit.length ≤ 100) :
    Calls Tryd.prog 26 #[.pointer (some ⟨d, 0, none⟩), .slice (some ⟨w.heap.size, 0, none⟩) n n] (w.alloc (.cells cs 5)) fun e w' => e = .returned (.tuple #[.string ⟨tl.toArray⟩, .int .i64 0]) ∧ Dec w' d ws' ∧ Chg (· = d) w w' := by
  have hb : Below w.heap.size w (w.alloc (.cells cs 5)) := (Below.refl _ _).alloc (Nat.le_refl _) _
  have hr := lit_rd w lit
  rw [hcs] at hr
  have := write_any d ws lit (some ⟨w.heap.size, 0, none⟩) n n _ (hd.below hb) hn hr (hT.below hb) (by omega)
  rw [hrun] at this
  exact this.mono fun e w' ⟨h1, h2, h3⟩ => ⟨h1, h2, (Chg.of_below hb).trans h3⟩
theorem of_lit (n : Nat) (lit tl : List UInt8) (cs : Array Value) (fr : Nat × Nat) (w : World) (hT : Tab w) (hof : ofB lit = tl) (hcs : (byts lit).toArray = cs) (hn : n = lit.length) (hl : lit.length ≤ 100) :
    Calls Tryd.prog 12 #[.slice (some ⟨w.heap.size, 0, none⟩) n n] (w.alloc (.cells cs 5 fr)) fun e w' => e = .returned (.string ⟨tl.toArray⟩) ∧ Below w.heap.size w w' := by
  have hb : Below w.heap.size w (w.alloc (.cells cs 5 fr)) := (Below.refl _ _).alloc (Nat.le_refl _) _
  have hr : Rd (w.alloc (.cells cs 5 fr)) (· < (w.alloc (.cells cs 5 fr)).heap.size) (some ⟨w.heap.size, 0, none⟩) lit := fun _ => by
    refine ⟨_, rfl, by simp, fun j u hu => ?_⟩
    rw [add_zero_, Nat.zero_add, cell_of_row _ _ j cs _ fr (World.alloc_heap_new w _), ← hcs]
    simpa using hu
  have := of_any lit (some ⟨w.heap.size, 0, none⟩) n n _ hn hr (hT.below hb) (by omega)
  unfold SoundOf at this
  rw [hof] at this
  exact this.mono fun e w' ⟨h1, h2⟩ => ⟨h1, hb.trans (h2.mono hb.size)⟩
theorem pair_lits (a b : Nat) (ha : a ≤ 1114111) (hb : b ≤ 1114111) : Tryd.prog.keyLits 2 93 [.int .i64 (a : Int), .int .i64 (b : Int)] = some [.int .i64 (a : Int), .int .i64 (b : Int)] := by
  have k1 : Tryd.prog.cellsOf 3 = 1 := by kernel_rfl
  have k2 : Tryd.prog.cellsOf 93 = 2 := by kernel_rfl
  have w1 : (Lit.int .i64 (a : Int)).wf = true := by simp [Lit.wf, IntKind.min, IntKind.max, IntKind.signed, IntKind.bits]; omega
  have w2 : (Lit.int .i64 (b : Int)).wf = true := by simp [Lit.wf, IntKind.min, IntKind.max, IntKind.signed, IntKind.bits]; omega
  have r2 : List.range 2 = [0, 1] := rfl
  simp [Program.keyLits, Tryd.underlying93, Tryd.underlying3, k1, k2, w1, w2, r2]
theorem pair_equal (a b a' b' : Nat) (ha : a ≤ 1114111) (hb : b ≤ 1114111) (ha' : a' ≤ 1114111) (hb' : b' ≤ 1114111) (w : World) :
    (Op.equalIn 10000 93 (.agg #[.int .i64 (a : Int), .int .i64 (b : Int)]) (.agg #[.int .i64 (a' : Int), .int .i64 (b' : Int)])).run Tryd.prog w = .ok (decide (a = a' ∧ b = b')) w := by
  obtain ⟨r, hr, hiff⟩ := run_equalIn_deep (P := Tryd.prog) 9998 2 93 (by kernel_rfl) w 2 2 (.agg #[.int .i64 (a : Int), .int .i64 (b : Int)]) (.agg #[.int .i64 (a' : Int), .int .i64 (b' : Int)]) _ _ (by kernel_rfl) (by kernel_rfl) (pair_lits a b ha hb) (pair_lits a' b' ha' hb')
  rw [hr]
  have : r = decide (a = a' ∧ b = b') := by
    cases r with
    | true =>
      have := hiff.1 rfl
      simp at this
      exact (decide_eq_true ⟨by omega, by omega⟩).symm
    | false =>
      refine (decide_eq_false (fun h => ?_)).symm
      have := hiff.2 (by rw [h.1, h.2])
      cases this
  rw [this]
/-- What lies while the points are gone over: the answer's cell, the pairs, their box, the counter. -/
def WkM (w : World) (v c : Nat) (W : World) : Prop :=
  Has W w.heap.size 4 #[.bool false] ∧ Has W v 93 #[.int .i64 0, .int .i64 97, .int .i64 1, .int .i64 65533, .int .i64 2, .int .i64 233] ∧ Has W (v + 1) 94 #[.slice (some ⟨v, 0, none⟩) 3 3] ∧
  Has W (v + 1 + 1 + 1) 3 #[.int .i64 (c : Int)] ∧ Below w.heap.size w W
theorem WkM.turn {w X Y : World} {v c B : Nat} {row : Option Nat} (h : WkM w v c X) (hg : X.grownBy Y row) (hr : ∀ r, row = some r → B ≤ r ∧ ∃ o : Obj, X.heap[r]? = some o ∧ o.isCells = false) (hB : w.heap.size ≤ B) : WkM w v c Y :=
  ⟨h.1.row hg hr, h.2.1.row hg hr, h.2.2.1.row hg hr, h.2.2.2.1.row hg hr, (ownFrom_below (β := Unit) (Nat.le_refl _) hB) () X Y row h.2.2.2.2 hg hr⟩
theorem WkM.count {w X : World} {v c : Nat} (h : WkM w v c X) (c' : Nat) (hv : w.heap.size < v) : WkM w v c' (X.setCell ⟨v + 1 + 1 + 1, 0, none⟩ (.int .i64 (c' : Int))) :=
  ⟨h.1.other (by omega) _, h.2.1.other (by omega) _, h.2.2.1.other (by omega) _, by simpa using h.2.2.2.1.put 0 (.int .i64 (c' : Int)), h.2.2.2.2.setCell (by show w.heap.size ≤ v + 1 + 1 + 1; omega) _⟩
def Fit (pre : List (Fin s0.data.toList.length)) : Prop := pre.map Fin.val = ([0, 1, 2] : List Nat).take pre.length ∧ pre.length ≤ 3
def WkI (w : World) (v : Nat) (pre : List (Fin s0.data.toList.length)) (W : World) : Prop := Fit pre ∧ WkM w v pre.length W
def WkX (c : Code) (pre : List (Fin s0.data.toList.length)) (_ : World) : Prop := c = .ret ∧ ¬ Fit pre
theorem fit_of {pre : List (Fin s0.data.toList.length)} {p : Nat} (h : Part s0.data.toList pre p) : Fit pre := by
  unfold Part at h
  rw [p0] at h
  have hl : pre.length ≤ 3 := by have := congrArg List.length h; simp at this; omega
  refine ⟨?_, hl⟩
  have := congrArg (List.take pre.length) h
  rw [List.take_left' (by simp)] at this
  exact this
theorem fit_next {pre : List (Fin s0.data.toList.length)} {x : Fin s0.data.toList.length} (h : Fit pre) (hx : x.val = pre.length) (hl : pre.length < 3) : Fit (pre ++ [x]) := by
  obtain ⟨h1, h2⟩ := h
  refine ⟨?_, by rw [List.length_append, List.length_singleton]; omega⟩
  rw [List.map_append, List.map_cons, List.map_nil, h1, List.length_append, List.length_singleton, hx]
  have : pre.length = 0 ∨ pre.length = 1 ∨ pre.length = 2 := by omega
  rcases this with h | h | h <;> rw [h] <;> rfl
theorem fit_last {pre : List (Fin s0.data.toList.length)} {x : Fin s0.data.toList.length} (h : Fit (pre ++ [x])) : x.val = pre.length := by
  obtain ⟨h1, h2⟩ := h
  rw [List.length_append, List.length_singleton] at h1 h2
  have : pre.length = 0 ∨ pre.length = 1 ∨ pre.length = 2 := by omega
  have hg := congrArg (fun l => l[pre.length]?) h1
  simp at hg
  rcases this with h | h | h <;> (rw [h] at hg ⊢; simpa using hg)
theorem wk_all {w W : World} {v : Nat} {xs : List (Fin s0.data.toList.length)} (h : Part s0.data.toList xs s0.size) (hI : WkI w v xs W) : WkM w v 3 W := by
  unfold Part at h
  rw [places_end (by decide), List.append_nil, p0] at h
  have hl : xs.length = 3 := by have := congrArg List.length h; simpa using this
  have := hI.2
  rw [hl] at this
  exact this
theorem wk_left {w W : World} {v : Nat} {c : Code} {pre : List (Fin s0.data.toList.length)} (h : ∃ p, p ≤ s0.size ∧ Part s0.data.toList pre p) (hI : WkX c pre W) : c = .exit 0 ∧ WkM w v 3 W := by
  obtain ⟨p, _, hp⟩ := h
  exact absurd (fit_of hp) hI.2
theorem Chg.tab {S : Nat → Prop} {a b : World} (h : Chg S a b) (hT : Tab a) (hS : ¬ S 0) : Tab b := hT.kept (h.block _ hT.lt hS)
set_option maxRecDepth 100000 in
set_option maxHeartbeats 4000000 in
theorem works_any (w : World) (hT : Tab w) : Calls Tryd.prog 11 #[] w fun e w' => e = .returned (.bool true) ∧ Below w.heap.size w w' := by
  have hT' := Lib.hid hT
  clear hT
  refine (callsIn_wide (n := 3)).1 ?_
  refine callsIn_of_wp_marks Tryd.func11 rfl trivial ?_ rfl
  refine wpIn_wide.2 ?_
  simp only [Tryd.ntmps11, List.size_toArray, List.length_nil, Nat.reduceSub, Array.replicate_succ, Array.replicate_zero, List.push_toArray, List.append_toArray, List.nil_append, List.cons_append]
  go_wp2_with fail
  refine (new_any _).mono ?_
  rintro e w1 ⟨rfl, rfl⟩
  have hD1 := dec_new (w.alloc (.cells #[.bool false] 4))
  simp only [World.size_alloc] at hD1
  have hB1 : Below w.heap.size w ((w.alloc (.cells #[.bool false] 4)).alloc (.cells #[.int .u8 0, .int .u8 0, .int .u8 0, .int .i64 0, .bool true] 57)) := ((Below.refl _ _).alloc (Nat.le_refl _) _).alloc (by simp) _
  have k1 := (Has.new w 4 #[.bool false]).alloc (.cells #[.int .u8 0, .int .u8 0, .int .u8 0, .int .i64 0, .bool true] 57)
  obtain ⟨w1, hw1⟩ : ∃ w1, (w.alloc (.cells #[.bool false] 4)).alloc (.cells #[.int .u8 0, .int .u8 0, .int .u8 0, .int .i64 0, .bool true] 57) = w1 := ⟨_, rfl⟩
  have z1 : w1.heap.size = w.heap.size + 1 + 1 := by rw [← hw1]; simp
  simp only [World.size_alloc]
  rw [hw1] at hD1 hB1 k1 ⊢
  clear hw1
  have hT1 := hT'.out.below hB1
  have hD1' := Lib.hid hD1
  have hB1' := Lib.hid hB1
  have k1' := Lib.hid k1
  have hT1' := Lib.hid hT1
  have z1' := Lib.hid z1
  clear hD1 hB1 k1 hT1 z1
  go_wp2_with fail
  refine (write_lit (w.heap.size + 1) 2 [] [226, 130] [] [226, 130] _ w1 hD1'.out hT1'.out e1 rfl rfl (by decide)).mono ?_
  rintro e w2 ⟨rfl, hD2, hC2⟩
  have hg0 := hT'.out.lt
  have hB2 : Below w.heap.size w w2 := hB1'.out.trans (hC2.below (fun k hk => by omega) hB1'.out.size)
  have k2 := hC2.has (by omega) k1'.out
  have hT2 := hC2.tab hT1'.out (by omega)
  have hD2' := Lib.hid hD2
  have hB2' := Lib.hid hB2
  have k2' := Lib.hid k2
  have hT2' := Lib.hid hT2
  clear hD2 hB2 k2 hT2 hC2 hD1' hB1' k1' hT1'
  go_wp2_with fail
  refine (waits_any _ _ _ hD2'.out).mono ?_
  rintro e w3 ⟨v3, rfl, hv3, hb3⟩
  obtain ⟨A3, c3, rfl, hr3⟩ := hv3.shape
  have hcv : (convert 22 9 (.slice A3 2 c3)).run Tryd.prog w3 = .ok (.string ⟨#[226, 130]⟩) w3 := hr3.text (P := Tryd.prog) 22 9 5 c3 Tryd.underlying22 Tryd.underlying5 Tryd.underlying9
  have hD3' := Lib.hid (hD2'.out.below hb3)
  have hB3' := Lib.hid (hB2'.out.trans (hb3.mono hB2'.out.size))
  have k3' := Lib.hid (k2'.out.below hb3 k2'.out.lt)
  have hT3' := Lib.hid (hT2'.out.below hb3)
  clear hv3 hb3 hr3 hD2' hB2' k2' hT2'
  simp only [List.length_cons, List.length_nil, Nat.reduceAdd]
  go_wp2_with fail
  refine (write_lit (w.heap.size + 1) 2 [226, 130] [172, 97] [226, 130, 172, 97] [] _ w3 hD3'.out hT3'.out e2 rfl rfl (by decide)).mono ?_
  rintro e w4 ⟨rfl, hD4, hC4⟩
  have hD4' := Lib.hid hD4
  have hB4' := Lib.hid (hB3'.out.trans (hC4.below (B := w.heap.size) (fun k hk => by omega) hB3'.out.size))
  have k4' := Lib.hid (hC4.has (by omega) k3'.out)
  have hT4' := Lib.hid (hC4.tab hT3'.out (by omega))
  clear hD4 hC4 hD3' hB3' k3' hT3' hcv
  go_wp2_with fail
  refine (end_any _ _ _ hD4'.out).mono ?_
  rintro e w5 ⟨rfl, hD5, hC5⟩
  rw [if_pos rfl]
  have hB5' := Lib.hid (hB4'.out.trans (hC5.below (B := w.heap.size) (fun k hk => by omega) hB4'.out.size))
  have k5' := Lib.hid (hC5.has (by omega) k4'.out)
  have hT5' := Lib.hid (hC5.tab hT4'.out (by omega))
  clear hD5 hC5 hD4' hB4' k4' hT4'
  go_wp2_with fail
  refine (each_any _ _).mono ?_
  rintro e w6 ⟨rfl, rfl⟩
  have q0' := (((Has.new w5 93 #[.int .i64 0, .int .i64 97, .int .i64 1, .int .i64 65533, .int .i64 2, .int .i64 233]).alloc (.cells #[.slice (some ⟨w5.heap.size, 0, none⟩) 3 3] 94)).alloc (.cells #[.string ⟨#[97, 255, 195, 169]⟩] 9))
  have q1 := ((Has.new (w5.alloc (.cells #[.int .i64 0, .int .i64 97, .int .i64 1, .int .i64 65533, .int .i64 2, .int .i64 233] 93)) 94 #[.slice (some ⟨w5.heap.size, 0, none⟩) 3 3]).alloc (.cells #[.string ⟨#[97, 255, 195, 169]⟩] 9))
  have q2 := Has.new ((w5.alloc (.cells #[.int .i64 0, .int .i64 97, .int .i64 1, .int .i64 65533, .int .i64 2, .int .i64 233] 93)).alloc (.cells #[.slice (some ⟨w5.heap.size, 0, none⟩) 3 3] 94)) 9 #[.string ⟨#[97, 255, 195, 169]⟩]
  have q3 := ((k5'.out.alloc (.cells #[.int .i64 0, .int .i64 97, .int .i64 1, .int .i64 65533, .int .i64 2, .int .i64 233] 93)).alloc (.cells #[.slice (some ⟨w5.heap.size, 0, none⟩) 3 3] 94)).alloc (.cells #[.string ⟨#[97, 255, 195, 169]⟩] 9)
  have hb6 : Below w5.heap.size w5 (((w5.alloc (.cells #[.int .i64 0, .int .i64 97, .int .i64 1, .int .i64 65533, .int .i64 2, .int .i64 233] 93)).alloc (.cells #[.slice (some ⟨w5.heap.size, 0, none⟩) 3 3] 94)).alloc (.cells #[.string ⟨#[97, 255, 195, 169]⟩] 9)) := (((Below.refl _ _).alloc (Nat.le_refl _) _).alloc (by simp) _).alloc (by simp; omega) _
  simp only [World.size_alloc] at q1 q2
  simp only [World.size_alloc]
  obtain ⟨w6, hw6⟩ : ∃ w6, ((w5.alloc (.cells #[.int .i64 0, .int .i64 97, .int .i64 1, .int .i64 65533, .int .i64 2, .int .i64 233] 93)).alloc (.cells #[.slice (some ⟨w5.heap.size, 0, none⟩) 3 3] 94)).alloc (.cells #[.string ⟨#[97, 255, 195, 169]⟩] 9) = w6 := ⟨_, rfl⟩
  have z6 : w6.heap.size = w5.heap.size + 1 + 1 + 1 := by rw [← hw6]; simp
  rw [hw6] at q0' q1 q2 q3 hb6 ⊢
  clear hw6
  have h5 := hB5'.out.size
  have h5l := k5'.out.lt
  have hB6 := hB5'.out.trans (hb6.mono h5)
  have hT6 := hT5'.out.below hb6
  have q0'' := Lib.hid q0'
  have q1' := Lib.hid q1
  have q2' := Lib.hid q2
  have q3' := Lib.hid q3
  have hB6' := Lib.hid hB6
  have hT6' := Lib.hid hT6
  have z6' := Lib.hid z6
  have hwz : w.heap.size < w6.heap.size := by omega
  clear q0' q1 q2 q3 hb6 hB6 hT6 z6 hB5' k5' hT5' z1'
  have hnil : ∀ (fn : Fn) (f c : Array Value) (w : World), Sem.run Tryd.prog (binOp BinOp.eql 34 (Value.func fn f c) Value.nilFunc) w = .ok (.bool false) w := fun _ _ _ _ => by kernel_rfl
  go_wp2
  clear hnil
  obtain ⟨v, hv⟩ : ∃ v, w5.heap.size = v := ⟨_, rfl⟩
  have z6 := z6'.out
  have q0' := q0''.out.alloc (.cells #[.int .i64 0] 3)
  have q1 := q1'.out.alloc (.cells #[.int .i64 0] 3)
  have q3 := q3'.out.alloc (.cells #[.int .i64 0] 3)
  have q2 := q2'.out.alloc (.cells #[.int .i64 0] 3)
  have q4 := Has.new w6 3 #[.int .i64 0]
  have hb7 : Below w6.heap.size w6 (w6.alloc (.cells #[.int .i64 0] 3)) := (Below.refl _ _).alloc (Nat.le_refl _) _
  have hB7 := hB6'.out.trans (hb7.mono (by omega))
  have hT7 := hT6'.out.below hb7
  obtain ⟨w7, hw7⟩ : ∃ w7, w6.alloc (.cells #[.int .i64 0] 3) = w7 := ⟨_, rfl⟩
  have z7 : w7.heap.size = w6.heap.size + 1 := by rw [← hw7]; simp
  rw [hw7] at q0' q1 q2 q3 q4 hB7 hT7 hb7 ⊢
  rw [hv] at q0' q1 q2 z6 ⊢
  rw [z6] at q4 ⊢
  have hM7 : WkM w v 0 w7 := ⟨q3, q0', q1, q4, hB7⟩
  have hvw : w.heap.size < v := by omega
  clear hw7 q0'' q1' q2' q3' hB6' hT6' z6' hb7 hB7 q0' q1 q3 q4 hv hwz h5 h5l
  refine (wpIn_wide (n := 3)).1 ?_
  refine wpIn_range_own 0 (gf := 47) (lb := #[.pointer (some ⟨v + 1 + 1, 0, none⟩)]) rfl (enters_of Tryd.func47 (by kernel_rfl) rfl)
    (each_stops s0 (by decide) (v + 1 + 1) (fun k => k = w.heap.size ∨ k = v + 1 + 1 + 1) w7 (fun k hk => by rcases hk with h | h <;> omega) (fun hk => by rcases hk with h | h <;> omega) (fun hk => by rcases hk with h | h <;> omega) hT7 q2)
    (fun h k => h.trans k) (fun W l o o' _ h1 h2 _ => KeepC.putObj W l o o' h1 h2) (Below.refl _ _) (fun _ => rfl)
    (WkI w v) WkX (WkM w v 3)
    (fun pre X Y row hs hg hr => ⟨hs.1, hs.2.turn hg hr (by omega)⟩)
    (fun c pre X Y row hs hg hr => hs) ⟨⟨rfl, Nat.zero_le _⟩, hM7⟩ (fun _ _ => wk_all) (fun _ _ _ => wk_left) ?a1 ?assign ?body (fun _ _ h => h) ?rest
  case assign =>
    intro l x W K hK
    have hK' := Lib.hid hK
    clear hK
    dsimp only [encPt]
    gi_wp2
    exact hK'.out
  case body =>
    rintro l pre x W ⟨hf, hM⟩ hlen
    have hM' := Lib.hid hM
    have hf' := Lib.hid hf
    obtain ⟨m0, m1, m2, m3, mB⟩ := hM
    have c0 := m0.cell 0
    have f0 := m0.free 0
    have c2 := m2.cell 0
    have c3 := m3.cell 0
    have f3 := m3.free 0
    have hpt : (lookAt s0.data.toList x.val).point ≤ 1114111 := (look_isPt _).1
    have hx4 : x.val < 4 := x.isLt
    have hfl := hf.2
    obtain ⟨pt, hpe⟩ : ∃ pt, (lookAt s0.data.toList x.val).point = pt := ⟨_, rfl⟩
    have hpe' := Lib.hid hpe
    rw [hpe] at hpt ⊢
    obtain ⟨xv, hxe⟩ : ∃ xv, x.val = xv := ⟨_, rfl⟩
    have hxe' := Lib.hid hxe
    rw [hxe] at hx4 ⊢
    clear hpe hxe hf
    have hl3 : pre.length = 0 ∨ pre.length = 1 ∨ pre.length = 2 ∨ pre.length = 3 := by omega
    rcases hl3 with h | h | h | h
    · rw [h] at c3
      have g0 := m1.cell 0
      have g1 := m1.cell 1
      have heq : ∀ w, (Op.equalIn 10000 93 (.agg #[.int .i64 0, .int .i64 97]) (.agg #[.int .i64 (xv : Int), .int .i64 (pt : Int)])).run Tryd.prog w = .ok (decide (0 = xv ∧ 97 = pt)) w := fun w => pair_equal 0 97 xv pt (by omega) (by omega) (by omega) hpt w
      have h' := Lib.hid h
      by_cases he : 0 = xv ∧ 97 = pt
      · rw [decide_eq_true he] at heq
        have he' := Lib.hid he
        clear he h m0 m1 m2 m3 mB hfl
        gi_wp2
        have hM2 := hM'.out.count 1 hvw
        refine ⟨(KeepsOthers.setCell _ _ _).from _, (KeepC.refl _ _ _).setCell (.inr rfl) _, fit_next hf'.out (by rw [h'.out, hxe'.out]; exact he'.out.1.symm) (by rw [h'.out]; omega), ?_⟩
        rw [List.length_append, List.length_singleton, h'.out]
        exact hM2
      · rw [decide_eq_false he] at heq
        have he' := Lib.hid he
        clear he h m0 m1 m2 m3 mB hfl
        gi_wp2
        refine ⟨(KeepsOthers.setCell _ _ _).from _, rfl, fun hff => he'.out ?_⟩
        have hx := fit_last hff
        rw [h'.out, hxe'.out] at hx
        subst hx
        refine ⟨rfl, ?_⟩
        rw [← hpe'.out, hxe'.out]
        exact (q0.1).symm
    · rw [h] at c3
      have g0 := m1.cell 2
      have g1 := m1.cell 3
      have heq : ∀ w, (Op.equalIn 10000 93 (.agg #[.int .i64 1, .int .i64 65533]) (.agg #[.int .i64 (xv : Int), .int .i64 (pt : Int)])).run Tryd.prog w = .ok (decide (1 = xv ∧ 65533 = pt)) w := fun w => pair_equal 1 65533 xv pt (by omega) (by omega) (by omega) hpt w
      have h' := Lib.hid h
      by_cases he : 1 = xv ∧ 65533 = pt
      · rw [decide_eq_true he] at heq
        have he' := Lib.hid he
        clear he h m0 m1 m2 m3 mB hfl
        gi_wp2
        have hM2 := hM'.out.count 2 hvw
        refine ⟨(KeepsOthers.setCell _ _ _).from _, (KeepC.refl _ _ _).setCell (.inr rfl) _, fit_next hf'.out (by rw [h'.out, hxe'.out]; exact he'.out.1.symm) (by rw [h'.out]; omega), ?_⟩
        rw [List.length_append, List.length_singleton, h'.out]
        exact hM2
      · rw [decide_eq_false he] at heq
        have he' := Lib.hid he
        clear he h m0 m1 m2 m3 mB hfl
        gi_wp2
        refine ⟨(KeepsOthers.setCell _ _ _).from _, rfl, fun hff => he'.out ?_⟩
        have hx := fit_last hff
        rw [h'.out, hxe'.out] at hx
        subst hx
        refine ⟨rfl, ?_⟩
        rw [← hpe'.out, hxe'.out]
        exact (q0.2.1).symm
    · rw [h] at c3
      have g0 := m1.cell 4
      have g1 := m1.cell 5
      have heq : ∀ w, (Op.equalIn 10000 93 (.agg #[.int .i64 2, .int .i64 233]) (.agg #[.int .i64 (xv : Int), .int .i64 (pt : Int)])).run Tryd.prog w = .ok (decide (2 = xv ∧ 233 = pt)) w := fun w => pair_equal 2 233 xv pt (by omega) (by omega) (by omega) hpt w
      have h' := Lib.hid h
      by_cases he : 2 = xv ∧ 233 = pt
      · rw [decide_eq_true he] at heq
        have he' := Lib.hid he
        clear he h m0 m1 m2 m3 mB hfl
        gi_wp2
        have hM2 := hM'.out.count 3 hvw
        refine ⟨(KeepsOthers.setCell _ _ _).from _, (KeepC.refl _ _ _).setCell (.inr rfl) _, fit_next hf'.out (by rw [h'.out, hxe'.out]; exact he'.out.1.symm) (by rw [h'.out]; omega), ?_⟩
        rw [List.length_append, List.length_singleton, h'.out]
        exact hM2
      · rw [decide_eq_false he] at heq
        have he' := Lib.hid he
        clear he h m0 m1 m2 m3 mB hfl
        gi_wp2
        refine ⟨(KeepsOthers.setCell _ _ _).from _, rfl, fun hff => he'.out ?_⟩
        have hx := fit_last hff
        rw [h'.out, hxe'.out] at hx
        subst hx
        refine ⟨rfl, ?_⟩
        rw [← hpe'.out, hxe'.out]
        exact (q0.2.2).symm
    · rw [h] at c3
      have h' := Lib.hid h
      clear h m0 m1 m2 m3 mB hfl
      gi_wp2
      refine ⟨(KeepsOthers.setCell _ _ _).from _, rfl, fun hff => ?_⟩
      have := hff.2
      rw [List.length_append, List.length_singleton, h'.out] at this
      omega
  case rest =>
    rintro D W hD hM hDn
    have hM' := Lib.hid hM
    obtain ⟨m0, m1, m2, m3, mB⟩ := hM
    have c0 := m0.cell 0
    have f0 := m0.free 0
    have c3 := m3.cell 0
    have hDn' := Lib.hid hDn
    clear m0 m1 m2 m3 mB hDn
    have hTW := hT'.out.below hM'.out.2.2.2.2
    have hBW := hM'.out.2.2.2.2.size
    have hwW := hM'.out.1.lt
    have hcc := fun (w : World) (C : Array Value) (n c : Nat) => Lib.run_convert_bytes_const (P := Tryd.prog) w 22 5 C n c Tryd.underlying22 Tryd.underlying5
    have y1 : (⟨#[97, 195, 169]⟩ : ByteArray) ++ ⟨#[239, 191, 189]⟩ = ⟨#[97, 195, 169, 239, 191, 189]⟩ := cat_bytes [97, 195, 169] [239, 191, 189]
    have y2 : (⟨#[97, 195, 169, 239, 191, 189]⟩ : ByteArray) ++ ⟨#[98]⟩ = ⟨#[97, 195, 169, 239, 191, 189, 98]⟩ := cat_bytes [97, 195, 169, 239, 191, 189] [98]
    have y3 : (⟨#[239, 191, 189]⟩ : ByteArray) ++ ⟨#[98]⟩ = ⟨#[239, 191, 189, 98]⟩ := cat_bytes [239, 191, 189] [98]
    have y4 : (⟨#[239, 191, 189]⟩ : ByteArray) ++ ⟨#[239, 191, 189]⟩ = ⟨#[239, 191, 189, 239, 191, 189]⟩ := cat_bytes [239, 191, 189] [239, 191, 189]
    have y5 : (⟨#[239, 191, 189, 239, 191, 189]⟩ : ByteArray) ++ ⟨#[239, 191, 189]⟩ = ⟨#[239, 191, 189, 239, 191, 189, 239, 191, 189]⟩ := cat_bytes [239, 191, 189, 239, 191, 189] [239, 191, 189]
    go_wp2_with (go_at_call 24; refine (num_any _ _).mono ?_; rintro e w' ⟨rfl, rfl⟩)
    refine (of_lit 5 [97, 195, 169, 255, 98] [97, 195, 169, 239, 191, 189, 98] _ _ W hTW o1 rfl rfl (by decide)).mono ?_
    rintro e x1 ⟨rfl, hb1⟩
    have hT1 := hTW.below hb1
    have hb1' := Lib.hid hb1
    clear hb1
    go_wp2_with fail
    refine (of_lit 3 [226, 130, 98] [239, 191, 189, 98] _ _ x1 hT1 o2 rfl rfl (by decide)).mono ?_
    rintro e x2 ⟨rfl, hb2⟩
    have hT2 := hT1.below hb2
    have hb2' := Lib.hid (below_on hb1'.out hb2)
    clear hb2
    go_wp2_with fail
    refine (of_lit 3 [240, 159, 152] [239, 191, 189] _ _ x2 hT2 o3 rfl rfl (by decide)).mono ?_
    rintro e x3 ⟨rfl, hb3⟩
    have hT3 := hT2.below hb3
    have hb3' := Lib.hid (below_on hb2'.out hb3)
    clear hb3
    go_wp2_with fail
    refine (of_lit 3 [237, 160, 128] [239, 191, 189, 239, 191, 189, 239, 191, 189] _ _ x3 hT3 o4 rfl rfl (by decide)).mono ?_
    rintro e x4 ⟨rfl, hb4⟩
    have hT4 := hT3.below hb4
    have hb4' := Lib.hid (below_on hb3'.out hb4)
    clear hb4
    go_wp2_with fail
    refine (of_lit 2 [192, 128] [239, 191, 189, 239, 191, 189] _ _ x4 hT4 o5 rfl rfl (by decide)).mono ?_
    rintro e x5 ⟨rfl, hb5⟩
    have hb5' := Lib.hid (below_on hb4'.out hb5)
    have g0 := hM'.out.1.below hb5'.out hwW
    have d0 := g0.cell 0
    have f0 := g0.free 0
    have g0' := Lib.hid g0
    clear hb5 g0
    have hDz : w.heap.size ≠ D := by omega
    have hDn5 := Lib.hid ((hDn'.out.below hb5'.out (hDn'.out.lt)).set g0'.out (i := 0) (.bool true))
    have g10 := Lib.hid (g0'.out.put 0 (.bool true))
    have hB10 := Lib.hid ((hM'.out.2.2.2.2.trans (hb5'.out.mono hBW)).setCell (p := ⟨w.heap.size, 0, none⟩) (Nat.le_refl _) (.bool true))
    go_wp2
    refine ⟨by simp, .inl ⟨_, _, rfl, run_takeDeferred hDn5.out, ?_⟩⟩
    have g11 := (g10.out.put_obj (.deferred none) (l := D) hDz).cell 0
    refine ⟨.bool true, ?_, rfl, ?_⟩
    · simp [results, Tryd.results11, go_sem, g11]
    · exact hB10.out.trans (belowK_b (w := w) (Nat.le_refl _) _ D _ _ (by omega) hDn5.out rfl rfl)
end Go.Proofs.YthdmmlaahjgijaaDoor
