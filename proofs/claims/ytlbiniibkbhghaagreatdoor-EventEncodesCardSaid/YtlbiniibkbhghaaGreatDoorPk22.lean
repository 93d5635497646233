import Derived.Test.YtlbiniibkbhghaaGreatDoorPk13
import Derived.Test.YtlbiniibkbhghaaGreatDoorPk14
import Derived.Test.YtlbiniibkbhghaaGreatDoorPk21
import Derived.Deep.CutRange
import Derived.Test.YtlbiniibkbhghaaGreatDoorPk12
namespace Go.Proofs.YtlbiniibkbhghaaGreatDoor
open Go.RowKit Go.Shelf
attribute [local go_sem] Oper.semAt_some

/-! ## The document's Right, Lines, Bytes -/
theorem carryB {P : Program} {k : FuncId} {args : Array Value} {v : Value} (w0 w : World) (hb : Below w0.heap.size w0 w) (h : Calls P k args w fun e w' => e = .returned v ∧ Below w.heap.size w w') : Calls P k args w fun e w' => e = .returned v ∧ Below w0.heap.size w0 w' := by
  refine h.mono ?_
  rintro e w' ⟨rfl, h⟩
  exact ⟨rfl, hb.trans (h.mono hb.size)⟩
set_option maxRecDepth 100000 in
set_option maxHeartbeats 4000000 in
theorem refRightE_any (e : Ev) (w : World) (hl : e.1.length + e.2.1.length + e.2.2.length ≤ 65536) : Calls Tryz.prog 13 #[evV e] w fun r w' => r = .returned (.bool (rightE e)) ∧ Below w.heap.size w w' := by
  have hd : refRight e = rightE e := refRight_eq e hl
  obtain ⟨a, b, c⟩ := e
  simp only at hl
  have hb1 : Below w.heap.size w (w.alloc (.cells (evCells (a, b, c)) 23)) := (Below.refl _ _).alloc (Nat.le_refl _) _
  have hk := Has.new w 23 (evCells (a, b, c))
  have s1 := Lib.hid (fun W (hb : Below (w.alloc (.cells (evCells (a, b, c)) 23)).heap.size (w.alloc (.cells (evCells (a, b, c)) 23)) W) => carryB _ W hb (refSound_any ⟨a.toArray⟩ W (by show a.toArray.size ≤ _; simp; omega)))
  have s2 := Lib.hid (fun W (hb : Below (w.alloc (.cells (evCells (a, b, c)) 23)).heap.size (w.alloc (.cells (evCells (a, b, c)) 23)) W) => carryB _ W hb (refSound_any ⟨b.toArray⟩ W (by show b.toArray.size ≤ _; simp; omega)))
  have s3 := Lib.hid (fun W (hb : Below (w.alloc (.cells (evCells (a, b, c)) 23)).heap.size (w.alloc (.cells (evCells (a, b, c)) 23)) W) => carryB _ W hb (refSound_any ⟨c.toArray⟩ W (by show c.toArray.size ≤ _; simp; omega)))
  rw [show (⟨a.toArray⟩ : ByteArray).data.toList = a from rfl] at s1
  rw [show (⟨b.toArray⟩ : ByteArray).data.toList = b from rfl] at s2
  rw [show (⟨c.toArray⟩ : ByteArray).data.toList = c from rfl] at s3
  have t1 := Lib.hid (fun W (hb : Below (w.alloc (.cells (evCells (a, b, c)) 23)).heap.size (w.alloc (.cells (evCells (a, b, c)) 23)) W) => carryB _ W hb (refHas_any a [0, 13, 10] W (by omega) (by decide)))
  have t2 := Lib.hid (fun W (hb : Below (w.alloc (.cells (evCells (a, b, c)) 23)).heap.size (w.alloc (.cells (evCells (a, b, c)) 23)) W) => carryB _ W hb (refHas_any b [13, 10] W (by omega) (by decide)))
  have t3 := Lib.hid (fun W (hb : Below (w.alloc (.cells (evCells (a, b, c)) 23)).heap.size (w.alloc (.cells (evCells (a, b, c)) 23)) W) => carryB _ W hb (refHas_any c [13] W (by omega) (by decide)))
  have hall := fun W (hb : Below (w.alloc (.cells (evCells (a, b, c)) 23)).heap.size (w.alloc (.cells (evCells (a, b, c)) 23)) W) => hk.below hb hk.lt
  have hb1' := Lib.hid hb1
  have r1 : decide ((65536 : Int) < (a.length : Int)) = false := decide_eq_false (by omega)
  have r2 : decide ((65536 : Int) < (b.length : Int)) = false := decide_eq_false (by omega)
  have r3 : decide ((65536 : Int) < (c.length : Int)) = false := decide_eq_false (by omega)
  have r4 : decide ((65536 : Int) < (a.length : Int) + (b.length : Int) + (c.length : Int)) = false := decide_eq_false (by omega)
  have q1 : decide (65536 < a.length) = false := decide_eq_false (by omega)
  have q2 : decide (65536 < b.length) = false := decide_eq_false (by omega)
  have q3 : decide (65536 < c.length) = false := decide_eq_false (by omega)
  have q4 : decide (65536 < a.length + b.length + c.length) = false := decide_eq_false (by omega)
  have z0 := hk.cell 0
  have z1 := hk.cell 1
  have z2 := hk.cell 2
  unfold evV evCells at *
  simp only [World.size_alloc] at s1 s2 s3 t1 t2 t3 hall
  obtain ⟨wA, hwA⟩ : ∃ wA, w.alloc (.cells #[.string ⟨a.toArray⟩, .string ⟨b.toArray⟩, .string ⟨c.toArray⟩] 23) = wA := ⟨_, rfl⟩
  obtain ⟨nA, hnA⟩ : ∃ nA, w.heap.size = nA := ⟨_, rfl⟩
  rw [hwA] at s1 s2 s3 t1 t2 t3 hb1' hk z0 z1 z2 hall
  have hall' := Lib.hid hall
  have hd' := Lib.hid hd
  have hnA' := Lib.hid hnA
  have hwA' := Lib.hid hwA
  clear hb1 hall hd hk hnA hwA
  unfold refRight at hd'
  simp only at hd'
  obtain ⟨B1, e1⟩ : ∃ B1, hasB a [0, 13, 10] = B1 := ⟨_, rfl⟩
  obtain ⟨B2, e2⟩ : ∃ B2, hasB b [13, 10] = B2 := ⟨_, rfl⟩
  obtain ⟨B3, e3⟩ : ∃ B3, hasB c [13] = B3 := ⟨_, rfl⟩
  obtain ⟨B4, e4⟩ : ∃ B4, soundB a = B4 := ⟨_, rfl⟩
  obtain ⟨B5, e5⟩ : ∃ B5, soundB b = B5 := ⟨_, rfl⟩
  obtain ⟨B6, e6⟩ : ∃ B6, soundB c = B6 := ⟨_, rfl⟩
  rw [e1] at t1 hd'
  rw [e2] at t2 hd'
  rw [e3] at t3 hd'
  rw [e4] at s1 hd'
  rw [e5] at s2 hd'
  rw [e6] at s3 hd'
  clear e1 e2 e3 e4 e5 e6
  obtain ⟨R, hR⟩ : ∃ R, rightE (a, b, c) = R := ⟨_, rfl⟩
  rw [hR] at hd' ⊢
  clear hR
  cases B1 with
  | true =>
    go_enter Tryz.func13, Tryz.ntmps13
    go_wp2_with fail
    rw [hwA'.out]
    go_wp2_with (first
      | (go_at_call 30; (with_reducible refine Calls.mono (t1.out _ (Below.refl _ _)) ?_); rintro r y0 ⟨rfl, hd0⟩; have hc0 := Lib.hid hd0; clear hd0; have v0 := hall'.out _ hc0.out; have a0 := v0.cell 0; have b0 := v0.cell 1; have d0 := v0.cell 2; clear v0))
    go_ret
    refine ⟨by rw [← hd'.out]; rfl, ?_⟩
    exact hb1'.out.trans (hc0.out.mono (by simp))
  | false =>
    cases B2 with
    | true =>
      go_enter Tryz.func13, Tryz.ntmps13
      go_wp2_with fail
      rw [hwA'.out]
      go_wp2_with (first
        | (go_at_call 30; (with_reducible refine Calls.mono (t2.out _ hc0.out) ?_); rintro r y1 ⟨rfl, hd1⟩; have hc1 := Lib.hid hd1; clear hd1; have v1 := hall'.out _ hc1.out; have a1 := v1.cell 0; have b1 := v1.cell 1; have d1 := v1.cell 2; clear v1)
        | (go_at_call 30; (with_reducible refine Calls.mono (t1.out _ (Below.refl _ _)) ?_); rintro r y0 ⟨rfl, hd0⟩; have hc0 := Lib.hid hd0; clear hd0; have v0 := hall'.out _ hc0.out; have a0 := v0.cell 0; have b0 := v0.cell 1; have d0 := v0.cell 2; clear v0))
      go_ret
      refine ⟨by rw [← hd'.out]; rfl, ?_⟩
      exact hb1'.out.trans (hc1.out.mono (by simp))
    | false =>
      cases B3 with
      | true =>
        go_enter Tryz.func13, Tryz.ntmps13
        go_wp2_with fail
        rw [hwA'.out]
        go_wp2_with (first
          | (go_at_call 30; (with_reducible refine Calls.mono (t3.out _ hc1.out) ?_); rintro r y2 ⟨rfl, hd2⟩; have hc2 := Lib.hid hd2; clear hd2; have v2 := hall'.out _ hc2.out; have a2 := v2.cell 0; have b2 := v2.cell 1; have d2 := v2.cell 2; clear v2)
          | (go_at_call 30; (with_reducible refine Calls.mono (t2.out _ hc0.out) ?_); rintro r y1 ⟨rfl, hd1⟩; have hc1 := Lib.hid hd1; clear hd1; have v1 := hall'.out _ hc1.out; have a1 := v1.cell 0; have b1 := v1.cell 1; have d1 := v1.cell 2; clear v1)
          | (go_at_call 30; (with_reducible refine Calls.mono (t1.out _ (Below.refl _ _)) ?_); rintro r y0 ⟨rfl, hd0⟩; have hc0 := Lib.hid hd0; clear hd0; have v0 := hall'.out _ hc0.out; have a0 := v0.cell 0; have b0 := v0.cell 1; have d0 := v0.cell 2; clear v0))
        go_ret
        refine ⟨by rw [← hd'.out]; rfl, ?_⟩
        exact hb1'.out.trans (hc2.out.mono (by simp))
      | false =>
        cases B4 with
        | false =>
          go_enter Tryz.func13, Tryz.ntmps13
          go_wp2_with fail
          rw [hwA'.out]
          go_wp2_with (first
            | (go_at_call 31; (with_reducible refine Calls.mono (s1.out _ hc2.out) ?_); rintro r y3 ⟨rfl, hd3⟩; have hc3 := Lib.hid hd3; clear hd3; have v3 := hall'.out _ hc3.out; have a3 := v3.cell 0; have b3 := v3.cell 1; have d3 := v3.cell 2; clear v3)
            | (go_at_call 30; (with_reducible refine Calls.mono (t3.out _ hc1.out) ?_); rintro r y2 ⟨rfl, hd2⟩; have hc2 := Lib.hid hd2; clear hd2; have v2 := hall'.out _ hc2.out; have a2 := v2.cell 0; have b2 := v2.cell 1; have d2 := v2.cell 2; clear v2)
            | (go_at_call 30; (with_reducible refine Calls.mono (t2.out _ hc0.out) ?_); rintro r y1 ⟨rfl, hd1⟩; have hc1 := Lib.hid hd1; clear hd1; have v1 := hall'.out _ hc1.out; have a1 := v1.cell 0; have b1 := v1.cell 1; have d1 := v1.cell 2; clear v1)
            | (go_at_call 30; (with_reducible refine Calls.mono (t1.out _ (Below.refl _ _)) ?_); rintro r y0 ⟨rfl, hd0⟩; have hc0 := Lib.hid hd0; clear hd0; have v0 := hall'.out _ hc0.out; have a0 := v0.cell 0; have b0 := v0.cell 1; have d0 := v0.cell 2; clear v0))
          go_ret
          refine ⟨by rw [← hd'.out]; rfl, ?_⟩
          exact hb1'.out.trans (hc3.out.mono (by simp))
        | true =>
          cases B5 with
          | false =>
            go_enter Tryz.func13, Tryz.ntmps13
            go_wp2_with fail
            rw [hwA'.out]
            go_wp2_with (first
              | (go_at_call 31; (with_reducible refine Calls.mono (s2.out _ hc3.out) ?_); rintro r y4 ⟨rfl, hd4⟩; have hc4 := Lib.hid hd4; clear hd4; have v4 := hall'.out _ hc4.out; have a4 := v4.cell 0; have b4 := v4.cell 1; have d4 := v4.cell 2; clear v4)
              | (go_at_call 31; (with_reducible refine Calls.mono (s1.out _ hc2.out) ?_); rintro r y3 ⟨rfl, hd3⟩; have hc3 := Lib.hid hd3; clear hd3; have v3 := hall'.out _ hc3.out; have a3 := v3.cell 0; have b3 := v3.cell 1; have d3 := v3.cell 2; clear v3)
              | (go_at_call 30; (with_reducible refine Calls.mono (t3.out _ hc1.out) ?_); rintro r y2 ⟨rfl, hd2⟩; have hc2 := Lib.hid hd2; clear hd2; have v2 := hall'.out _ hc2.out; have a2 := v2.cell 0; have b2 := v2.cell 1; have d2 := v2.cell 2; clear v2)
              | (go_at_call 30; (with_reducible refine Calls.mono (t2.out _ hc0.out) ?_); rintro r y1 ⟨rfl, hd1⟩; have hc1 := Lib.hid hd1; clear hd1; have v1 := hall'.out _ hc1.out; have a1 := v1.cell 0; have b1 := v1.cell 1; have d1 := v1.cell 2; clear v1)
              | (go_at_call 30; (with_reducible refine Calls.mono (t1.out _ (Below.refl _ _)) ?_); rintro r y0 ⟨rfl, hd0⟩; have hc0 := Lib.hid hd0; clear hd0; have v0 := hall'.out _ hc0.out; have a0 := v0.cell 0; have b0 := v0.cell 1; have d0 := v0.cell 2; clear v0))
            go_ret
            refine ⟨by rw [← hd'.out]; rfl, ?_⟩
            exact hb1'.out.trans (hc4.out.mono (by simp))
          | true =>
            cases B6 with
            | false =>
              go_enter Tryz.func13, Tryz.ntmps13
              go_wp2_with fail
              rw [hwA'.out]
              go_wp2_with (first
                | (go_at_call 31; (with_reducible refine Calls.mono (s3.out _ hc4.out) ?_); rintro r y5 ⟨rfl, hd5⟩; have hc5 := Lib.hid hd5; clear hd5)
                | (go_at_call 31; (with_reducible refine Calls.mono (s2.out _ hc3.out) ?_); rintro r y4 ⟨rfl, hd4⟩; have hc4 := Lib.hid hd4; clear hd4; have v4 := hall'.out _ hc4.out; have a4 := v4.cell 0; have b4 := v4.cell 1; have d4 := v4.cell 2; clear v4)
                | (go_at_call 31; (with_reducible refine Calls.mono (s1.out _ hc2.out) ?_); rintro r y3 ⟨rfl, hd3⟩; have hc3 := Lib.hid hd3; clear hd3; have v3 := hall'.out _ hc3.out; have a3 := v3.cell 0; have b3 := v3.cell 1; have d3 := v3.cell 2; clear v3)
                | (go_at_call 30; (with_reducible refine Calls.mono (t3.out _ hc1.out) ?_); rintro r y2 ⟨rfl, hd2⟩; have hc2 := Lib.hid hd2; clear hd2; have v2 := hall'.out _ hc2.out; have a2 := v2.cell 0; have b2 := v2.cell 1; have d2 := v2.cell 2; clear v2)
                | (go_at_call 30; (with_reducible refine Calls.mono (t2.out _ hc0.out) ?_); rintro r y1 ⟨rfl, hd1⟩; have hc1 := Lib.hid hd1; clear hd1; have v1 := hall'.out _ hc1.out; have a1 := v1.cell 0; have b1 := v1.cell 1; have d1 := v1.cell 2; clear v1)
                | (go_at_call 30; (with_reducible refine Calls.mono (t1.out _ (Below.refl _ _)) ?_); rintro r y0 ⟨rfl, hd0⟩; have hc0 := Lib.hid hd0; clear hd0; have v0 := hall'.out _ hc0.out; have a0 := v0.cell 0; have b0 := v0.cell 1; have d0 := v0.cell 2; clear v0))
              go_ret
              refine ⟨by rw [← hd'.out]; rfl, ?_⟩
              exact hb1'.out.trans (hc5.out.mono (by simp))
            | true =>
              go_enter Tryz.func13, Tryz.ntmps13
              go_wp2_with fail
              rw [hwA'.out]
              go_wp2_with (first
                | (go_at_call 31; (with_reducible refine Calls.mono (s3.out _ hc4.out) ?_); rintro r y5 ⟨rfl, hd5⟩; have hc5 := Lib.hid hd5; clear hd5)
                | (go_at_call 31; (with_reducible refine Calls.mono (s2.out _ hc3.out) ?_); rintro r y4 ⟨rfl, hd4⟩; have hc4 := Lib.hid hd4; clear hd4; have v4 := hall'.out _ hc4.out; have a4 := v4.cell 0; have b4 := v4.cell 1; have d4 := v4.cell 2; clear v4)
                | (go_at_call 31; (with_reducible refine Calls.mono (s1.out _ hc2.out) ?_); rintro r y3 ⟨rfl, hd3⟩; have hc3 := Lib.hid hd3; clear hd3; have v3 := hall'.out _ hc3.out; have a3 := v3.cell 0; have b3 := v3.cell 1; have d3 := v3.cell 2; clear v3)
                | (go_at_call 30; (with_reducible refine Calls.mono (t3.out _ hc1.out) ?_); rintro r y2 ⟨rfl, hd2⟩; have hc2 := Lib.hid hd2; clear hd2; have v2 := hall'.out _ hc2.out; have a2 := v2.cell 0; have b2 := v2.cell 1; have d2 := v2.cell 2; clear v2)
                | (go_at_call 30; (with_reducible refine Calls.mono (t2.out _ hc0.out) ?_); rintro r y1 ⟨rfl, hd1⟩; have hc1 := Lib.hid hd1; clear hd1; have v1 := hall'.out _ hc1.out; have a1 := v1.cell 0; have b1 := v1.cell 1; have d1 := v1.cell 2; clear v1)
                | (go_at_call 30; (with_reducible refine Calls.mono (t1.out _ (Below.refl _ _)) ?_); rintro r y0 ⟨rfl, hd0⟩; have hc0 := Lib.hid hd0; clear hd0; have v0 := hall'.out _ hc0.out; have a0 := v0.cell 0; have b0 := v0.cell 1; have d0 := v0.cell 2; clear v0))
              go_ret
              refine ⟨by rw [← hd'.out]; rfl, ?_⟩
              exact hb1'.out.trans (hc5.out.mono (by simp))
end Go.Proofs.YtlbiniibkbhghaaGreatDoor

namespace Go.Proofs.YtlbiniibkbhghaaGreatDoor
open Go.RowKit Go.Shelf
attribute [local go_sem] Oper.semAt_some

/-! ## The document's Lines -/
section
variable {w : World} {ops : Array Oper} {rest : List Oper} {o : Oper} {a : Act} {Q : Exit → Act → World → Prop} {n0 : Nat} {v : Value} {l : List (List UInt8)}
theorem wpList_append_str2 (hgd : o.guard = none) (s x : Operand) (ho : o.op = .call { callee := .builtin .append, args := #[s, x], argTypes := #[35, 35] }) (hsv : a.eval s = v) (hv : Strs w n0 v l)
    (k : Nat) (t : List UInt8) (hxv : a.eval x = .slice (some ⟨k, 0, none⟩) 1 1) (hx : Has w k 9 #[.string ⟨t.toArray⟩]) (hs : l.length + 1 ≤ 1000000) (hn : n0 ≤ w.heap.size)
    (h : ∀ v' w', Strs w' n0 v' (l ++ [t]) → w.grownBy w' v.ownBlock → (v'.ownBlock = v.ownBlock ∨ v'.ownBlock = some w.heap.size) → wpList Tryz.prog ops Q rest (a.put o.dst v') w') : wpList Tryz.prog ops Q (o :: rest) a w := by
  obtain ⟨i, hi, hz, hz1, hz2⟩ := info_str
  refine wpList_append_own_at w hgd s x 35 ho n0 9 i (.string ⟨#[]⟩) 1 16 Tryz.underlying35 hi hz hz1 hz2 rfl (by decide) v l.length (strsC l) hsv hv ⟨k, 0, none⟩ 1 1 [.string ⟨t.toArray⟩] hxv rfl (fun j u hu => ?_) (by intro u hu; rw [List.mem_singleton.1 hu]; rfl) (by simp only [maxLen]; omega) (by omega) hn (fun v' w' h1 h2 _ h4 => h v' w' ?_ h2 h4)
  · have hj : j = 0 := by
      have := (List.getElem?_eq_some_iff.1 hu).1
      simp at this
      omega
    subst hj
    have e : (⟨k, 0, none⟩ : Addr).add 0 = ⟨k, 0, none⟩ := by unfold Addr.add; split <;> simp_all
    rw [e, hx.cell]
    simpa using hu
  · unfold Strs
    rw [List.length_append, List.length_singleton, show strsC (l ++ [t]) = strsC l ++ [.string ⟨t.toArray⟩] by simp [strsC]]
    exact h1
end
theorem strs_has {X Y : World} {v : Value} {k : Nat} {t : TypeId} {cs : Array Value} (h : Has X k t cs) (hg : X.grownBy Y v.ownBlock) (hk : v.ownBlock ≠ some k) : Has Y k t cs := (hg.block k h.lt (fun e => hk e.symm)).trans h
def idF (e : Ev) : List (List UInt8) := (oneF 5 idN e.1).map lineF
def tyF (e : Ev) : List (List UInt8) := (oneF 4 eventN e.2.1).map lineF
def dtF (e : Ev) (k : Nat) : List (List UInt8) := ((partsL e.2.2).take k).map fun p => lineF (3, dataN, p)
theorem linesE_split (e : Ev) : linesE e = idF e ++ tyF e ++ dtF e (partsL e.2.2).length ++ [[]] := by
  unfold linesE fieldsE idF tyF dtF dataF
  simp [List.map_append, List.append_assoc, Function.comp_def]
theorem dtF_next {e : Ev} {k : Nat} {p : List UInt8} (h : (partsL e.2.2)[k]? = some p) : dtF e (k + 1) = dtF e k ++ [lineF (3, dataN, p)] := by
  obtain ⟨hk, rfl⟩ := List.getElem?_eq_some_iff.1 h
  unfold dtF
  rw [List.take_succ_eq_append_getElem hk, List.map_append]
  rfl
/-- Where the list stands: the event's box, the list, all that lay ahead. -/
structure LnQ (w : World) (e : Ev) (v : Value) (l : List (List UInt8)) (W : World) : Prop where
  box : Has W w.heap.size 23 (evCells e)
  st : Strs W (w.heap.size + 1) v l
  be : Below w.heap.size w W
theorem LnQ.below {w W V : World} {e : Ev} {v : Value} {l : List (List UInt8)} (h : LnQ w e v l W) (hb : Below W.heap.size W V) : LnQ w e v l V := ⟨h.box.below hb h.box.lt, h.st.below hb, h.be.trans (hb.mono h.be.size)⟩
theorem LnQ.grown {w W V : World} {e : Ev} {v v' : Value} {l l' : List (List UInt8)} (h : LnQ w e v l W) (hs : Strs V (w.heap.size + 1) v' l') (hg : W.grownBy V v.ownBlock) : LnQ w e v' l' V :=
  ⟨grown_str h.box h.st hg (by decide), hs, h.be.grown hg h.be.size (fun g e => by have := (h.st.own g e).1; omega)⟩
theorem line_one (f : FdT) (hs : sayF f = true) (h1 : f.2.1.length ≤ 1000) (h2 : f.2.2.length ≤ 1000) (w : World) : Calls Tryz.prog 32 #[.agg #[.int .i64 f.1, .string ⟨f.2.1.toArray⟩, .string ⟨f.2.2.toArray⟩]] w fun e w' => e = .returned (.string ⟨(lineF f).toArray⟩) ∧ Below w.heap.size w w' := by
  have := refLineF_any f w (by omega) (by omega)
  rwa [refLine_say hs] at this
set_option maxRecDepth 100000 in
theorem refLinesE_no (e : Ev) (w : World) (hl : e.1.length + e.2.1.length + e.2.2.length ≤ 65536) (hr : rightE e = false) : Calls Tryz.prog 16 #[evV e] w fun r w' => r = .returned (.slice none 0 0) ∧ Below w.heap.size w w' := by
  have hb1 : Below w.heap.size w (w.alloc (.cells (evCells e) 23)) := (Below.refl _ _).alloc (Nat.le_refl _) _
  have h := Lib.hid (refRightE_any e (w.alloc (.cells (evCells e) 23)) hl)
  rw [hr] at h
  have hb1' := Lib.hid hb1
  clear hb1 hr
  unfold evV evCells at *
  go_enter Tryz.func16, Tryz.ntmps16
  go_wp2_with (go_at_call 13; (with_reducible refine Calls.mono h.out ?_); rintro r w2 ⟨rfl, hb2⟩; have hb2' := Lib.hid hb2; clear hb2)
  go_ret
  exact ⟨rfl, hb1'.out.trans (hb2'.out.mono (by simp))⟩
set_option maxRecDepth 100000 in
set_option maxHeartbeats 4000000 in
theorem refLinesE_yes (e : Ev) (w : World) (hf : fewE e) (hr : rightE e = true) : Calls Tryz.prog 16 #[evV e] w fun r w' => ∃ v, r = .returned v ∧ Strs w' w.heap.size v (linesE e) ∧ Below w.heap.size w w' := by
  obtain ⟨l1, l2, l3⟩ := hf
  have hb1 : Below w.heap.size w (w.alloc (.cells (evCells e) 23)) := (Below.refl _ _).alloc (Nat.le_refl _) _
  have h := Lib.hid (refRightE_any e (w.alloc (.cells (evCells e) 23)) (by omega))
  rw [hr] at h
  have hk := Has.new w 23 (evCells e)
  have hI : ∀ t : List UInt8, e.1 = t → t.length ≤ 1000 := fun t ht => by rw [← ht]; omega
  have hsp := linesE_split e
  have hfewL : (idF e).length ≤ 1 ∧ (tyF e).length ≤ 1 := ⟨by unfold idF oneF; split <;> simp, by unfold tyF oneF; split <;> simp⟩
  have hmany := partsL_many e.2.2
  have hpl := partsL_len e.2.2
  have hpr : ∀ W, Calls Tryz.prog 33 #[.string ⟨e.2.2.toArray⟩, .int .u8 10] W fun r w' => ∃ v, r = .returned v ∧ Strs w' W.heap.size v (partsL e.2.2) ∧ Below W.heap.size W w' := fun W => by
    have := refParts_any 10 e.2.2 W (by omega)
    rwa [partsG_ten] at this
  have hid : ∀ p ∈ partsL e.2.2, ∀ W, Calls Tryz.prog 32 #[.agg #[.int .i64 3, .string ⟨dataN.toArray⟩, .string ⟨p.toArray⟩]] W fun r w' => r = .returned (.string ⟨(lineF (3, dataN, p)).toArray⟩) ∧ Below W.heap.size W w' := fun p hp W =>
    line_one (3, dataN, p) rfl (by simp [dataN]) (by have := hpl p hp; show p.length ≤ 1000; omega) W
  have hdn : dataN = [100, 97, 116, 97] := rfl
  obtain ⟨a, b, c⟩ := e
  simp only at l1 l2 l3 hsp hI hmany hpl hpr hid
  have hq0 := Lib.hid (show LnQ w (a, b, c) (.slice none 0 0) [] (w.alloc (.cells (evCells (a, b, c)) 23)) from ⟨hk, strs_nil _ _, hb1⟩)
  have hb1' := Lib.hid hb1
  have hsp' := Lib.hid hsp
  have hpr' := Lib.hid hpr
  have hid' := Lib.hid hid
  have hfl := Lib.hid hfewL
  clear hb1 hr hk hI hsp hpr hid hfewL hpl
  unfold evV evCells at h
  unfold evV
  unfold evCells
  go_enter Tryz.func16, Tryz.ntmps16
  unfold evCells at hq0
  go_upto_region 4 with (go_at_call 13; (with_reducible refine Calls.mono h.out ?_); rintro r w2 ⟨rfl, hb2⟩; have hq2 := Lib.hid (hq0.out.below hb2); clear hb2)
  have x0 : w2.cell? ⟨w.heap.size, 0, none⟩ = some (.string ⟨a.toArray⟩) := hq2.out.box.cell 0
  go_upto_if 11 with fail
  go_cut [3] from 9 to 18 (fun v wx => LnQ w (a, b, c) v (idF (a, b, c)) wx)
  case first =>
    by_cases ha : a = []
    · subst ha
      go_wp2_with fail
      go_meet
      exact hq2.out
    · have hae : a.isEmpty = false := by cases a with
        | nil => exact absurd rfl ha
        | cons x r => rfl
      rw [show (!a.isEmpty) = true from by rw [hae]; rfl]
      clear hae
      have hfi : idF (a, b, c) = [] ++ [lineF (5, idN, a)] := by unfold idF oneF; rw [if_neg ha]; rfl
      have hl5 := fun W => line_one (5, idN, a) rfl (by simp [idN]) (by show a.length ≤ 1000; omega) W
      obtain ⟨t, ht⟩ : ∃ t, lineF (5, idN, a) = t := ⟨_, rfl⟩
      rw [ht] at hl5 hfi
      unfold idN at hl5
      have hl5' := Lib.hid hl5
      have hfi' := Lib.hid hfi
      clear hl5 hfi ha ht
      go_wp2_with (first
        | (go_at_call 32; (with_reducible refine Calls.mono (hl5'.out _) ?_); rintro r w3 ⟨rfl, hb3⟩; have hq3 := Lib.hid (hq2.out.below hb3); have hal3 := Lib.hid ((Below.refl w3.heap.size w3).alloc (Nat.le_refl _) (.cells #[.string ⟨t.toArray⟩] 9)); have hnw3 := Lib.hid (Has.new w3 9 #[.string ⟨t.toArray⟩]); have hqa3 := Lib.hid (hq3.out.below hal3.out); clear hb3)
        | (at_builtin; refine wpList_append_str rfl _ _ rfl rfl hqa3.out.st _ t rfl hnw3.out (by decide) (by have := hq3.out.box.lt; simp; omega) ?_; intro v4 w4 ho4 hg4; have hq4 := Lib.hid (hqa3.out.grown ho4 hg4); clear ho4 hg4))
      go_meet
      rw [hfi'.out]
      exact hq4.out
  case rest =>
    obtain ⟨A3, g3, c3, cur3, hv3, _⟩ := hcut.st.shape
    obtain ⟨n3, hn3⟩ : ∃ n3, (idF (a, b, c)).length = n3 := ⟨_, rfl⟩
    rw [hn3] at hv3
    subst hv3
    have hn3' := Lib.hid (show (idF (a, b, c)).length ≤ 1 from hfl.out.1)
    have hq5 := Lib.hid hcut
    have y1 : wc.cell? ⟨w.heap.size, 1, none⟩ = some (.string ⟨b.toArray⟩) := hcut.box.cell 1
    obtain ⟨w5, hw5⟩ : ∃ w5, w5 = wc := ⟨_, rfl⟩
    subst hw5
    clear hcut hn3 hq0 hq2 h x0
    go_upto_if 21 with fail
    go_cut [3] from 19 to 28 (fun v wx => LnQ w (a, b, c) v (idF (a, b, c) ++ tyF (a, b, c)) wx)
    case first =>
      by_cases hb : b = []
      · subst hb
        go_wp2_with fail
        go_meet
        have hz : idF (a, [], c) ++ tyF (a, [], c) = idF (a, [], c) := by unfold tyF oneF; simp
        rw [hz]
        exact hq5.out
      · have hbe : b.isEmpty = false := by cases b with
          | nil => exact absurd rfl hb
          | cons x r => rfl
        rw [show (!b.isEmpty) = true from by rw [hbe]; rfl]
        clear hbe
        have hfi : idF (a, b, c) ++ tyF (a, b, c) = idF (a, b, c) ++ [lineF (4, eventN, b)] := by unfold tyF oneF; rw [if_neg hb]; rfl
        have hl5 := fun W => line_one (4, eventN, b) rfl (by simp [eventN]) (by show b.length ≤ 1000; omega) W
        obtain ⟨t, ht⟩ : ∃ t, lineF (4, eventN, b) = t := ⟨_, rfl⟩
        rw [ht] at hl5 hfi
        unfold eventN at hl5
        have hl5' := Lib.hid hl5
        have hfi' := Lib.hid hfi
        clear hl5 hfi hb ht
        go_wp2_with (first
          | (go_at_call 32; (with_reducible refine Calls.mono (hl5'.out _) ?_); rintro r w6 ⟨rfl, hb6⟩; have hq6 := Lib.hid (hq5.out.below hb6); have hal6 := Lib.hid ((Below.refl w6.heap.size w6).alloc (Nat.le_refl _) (.cells #[.string ⟨t.toArray⟩] 9)); have hnw6 := Lib.hid (Has.new w6 9 #[.string ⟨t.toArray⟩]); have hqa6 := Lib.hid (hq6.out.below hal6.out); clear hb6)
          | (at_builtin; refine wpList_append_str rfl _ _ rfl rfl hqa6.out.st _ t rfl hnw6.out (by have := hn3'.out; omega) (by have := hq6.out.box.lt; simp; omega) ?_; intro v7 w7 ho7 hg7; have hq7 := Lib.hid (hqa6.out.grown ho7 hg7); clear ho7 hg7))
        go_meet
        rw [hfi'.out]
        exact hq7.out
    case rest =>
      obtain ⟨A8, g8, c8, cur8, hv8, _⟩ := hcut.st.shape
      obtain ⟨n8, hn8⟩ : ∃ n8, (idF (a, b, c) ++ tyF (a, b, c)).length = n8 := ⟨_, rfl⟩
      have hn8' := Lib.hid (show (idF (a, b, c) ++ tyF (a, b, c)).length ≤ 2 from by rw [List.length_append]; have := hfl.out; omega)
      have hown8 := Lib.hid (show ∀ g, (Value.slice A8 n8 c8).ownBlock = some g → g < wc.heap.size from fun g e => by
        rw [← hn8, ← hv8] at e
        obtain ⟨_, cs, hh⟩ := hcut.st.own g e
        exact hh.lt)
      rw [hn8] at hv8
      subst hv8
      have hq9 := Lib.hid hcut
      have z2 : wc.cell? ⟨w.heap.size, 2, none⟩ = some (.string ⟨c.toArray⟩) := hcut.box.cell 2
      obtain ⟨w9, hw9⟩ : ∃ w9, w9 = wc := ⟨_, rfl⟩
      subst hw9
      clear hcut hn8 hq5 y1
      have hpw := Lib.hid (hpr'.out w9)
      go_wp2_with (go_at_call 33; (with_reducible refine Calls.mono hpw.out ?_); rintro r w10 ⟨vp, rfl, hsp10, hb10⟩; obtain ⟨Ap, gp, cp, curp, rfl, hin⟩ := hsp10.shape; obtain ⟨np, hnp⟩ : ∃ np, (partsL c).length = np := ⟨_, rfl⟩; rw [hnp]; have hin' := Lib.hid hin; have hnp' := Lib.hid hnp; have hq10 := Lib.hid (hq9.out.below hb10); have hz10 := hb10.size; clear hsp10 hin hnp hb10)
      have hnpl : np ≤ 301 := by have := hnp'.out; omega
      have hst0 := Lib.hid (show LnQ w (a, b, c) (.slice A8 n8 c8) (idF (a, b, c) ++ tyF (a, b, c) ++ dtF (a, b, c) 0) w10 from by
        have := hq10.out
        unfold dtF
        simpa using this)
      have hrow := Lib.hid (show 0 < np → Ap = some ⟨gp, 0, none⟩ ∧ w9.heap.size ≤ gp ∧ Has w10 gp 9 curp from fun h => hin'.out.1 (by rw [hnp'.out]; exact h))
      have hcur := Lib.hid hin'.out.2
      go_loopw [3, 5] (fun v x W => ∃ k : Nat, k ≤ np ∧ x = .int .i64 (k : Int) ∧ LnQ w (a, b, c) v (idF (a, b, c) ++ tyF (a, b, c) ++ dtF (a, b, c) k) W ∧ (0 < np → Has W gp 9 curp ∧ v.ownBlock ≠ some gp)) (fun _ x _ => np - (intOf x).toNat)
      case atStart => exact ⟨0, Nat.zero_le _, rfl, hst0.out, fun h => ⟨(hrow.out h).2.2, fun e => by have := hown8.out _ e; have := (hrow.out h).2.1; omega⟩⟩
      case round =>
        obtain ⟨k, hk, rfl, hq, hrw⟩ := hrel
        obtain ⟨A11, g11, c11, cur11, hv11, _⟩ := hq.st.shape
        have hlen := Lib.hid (show (idF (a, b, c) ++ tyF (a, b, c) ++ dtF (a, b, c) k).length ≤ 400 from by
          rw [List.length_append]
          have h1 := hn8'.out
          have h2 : (dtF (a, b, c) k).length ≤ k := by unfold dtF; rw [List.length_map, List.length_take]; exact Nat.min_le_left _ _
          omega)
        obtain ⟨n11, hn11⟩ : ∃ n11, (idF (a, b, c) ++ tyF (a, b, c) ++ dtF (a, b, c) k).length = n11 := ⟨_, rfl⟩
        rw [hn11] at hv11
        subst hv11
        have hq' := Lib.hid hq
        have hrw' := Lib.hid hrw
        clear hq hrw hn11 hq10 hst0 hq9
        by_cases hlt : k < np
        · have hltI : (k : Int) < (np : Int) := by omega
          obtain ⟨p, hp⟩ : ∃ p, (partsL c)[k]? = some p := ⟨(partsL c)[k]'(by rw [hnp'.out]; exact hlt), List.getElem?_eq_getElem _⟩
          obtain ⟨rfl, _, _⟩ := hrow.out (by omega)
          have ck := (hrw'.out (by omega)).1.cell k
          rw [hcur.out k p hp] at ck
          have hnx := dtF_next (e := (a, b, c)) (k := k) hp
          have hld := hid'.out p (List.mem_of_getElem? hp)
          obtain ⟨t, ht⟩ : ∃ t, lineF (3, dataN, p) = t := ⟨_, rfl⟩
          rw [ht] at hld hnx
          unfold dataN at hld
          have hld' := Lib.hid hld
          have hnx' := Lib.hid hnx
          clear hld hnx ht hp
          go_wp2_with (first
            | (go_at_call 32; (with_reducible refine Calls.mono (hld'.out _) ?_); rintro r w12 ⟨rfl, hb12⟩; have hq12 := Lib.hid (hq'.out.below hb12); have hal12 := Lib.hid ((Below.refl w12.heap.size w12).alloc (Nat.le_refl _) (.cells #[.string ⟨t.toArray⟩] 9)); have hnw12 := Lib.hid (Has.new w12 9 #[.string ⟨t.toArray⟩]); have hqa12 := Lib.hid (hq12.out.below hal12.out); have hbw12 := Lib.hid hb12; clear hb12)
            | (at_builtin; refine wpList_append_str2 rfl _ _ rfl rfl hqa12.out.st _ t rfl hnw12.out (by have := hlen.out; omega) (by have := hq12.out.box.lt; simp; omega) ?_; intro v13 w13 ho13 hg13 hw13; have hq13 := Lib.hid (hqa12.out.grown ho13 hg13); have hg13' := Lib.hid hg13; have hw13' := Lib.hid hw13; clear ho13 hg13 hw13))
          refine ⟨⟨k + 1, by omega, by go_num, ?_, fun h => ?_⟩, by simp [intOf]; omega⟩
          · rw [hnx'.out, ← List.append_assoc]
            exact hq13.out
          · obtain ⟨h1, h2⟩ := hrw'.out h
            have h3 := (h1.below hbw12.out h1.lt).alloc (.cells #[.string ⟨t.toArray⟩] 9)
            refine ⟨strs_has h3 hg13'.out h2, fun e => ?_⟩
            rcases hw13'.out with h4 | h4
            · rw [h4] at e; exact h2 e
            · rw [h4] at e
              have e2 := Option.some.inj e
              have := h3.lt
              have := h1.lt
              have := hbw12.out.size
              simp at e2
              omega
        · obtain rfl : k = np := by omega
          have hend := Lib.hid (show Strs (wr.alloc (.cells #[.string ⟨#[]⟩] 9)) (w.heap.size + 1) (.slice A11 n11 c11) (idF (a, b, c) ++ tyF (a, b, c) ++ dtF (a, b, c) k) from hq'.out.st.below ((Below.refl _ _).alloc (Nat.le_refl _) _))
          have hnwE := Lib.hid (Has.new wr 9 #[.string ⟨([] : List UInt8).toArray⟩])
          have hbE := Lib.hid (hq'.out.be.alloc hq'.out.be.size (.cells #[.string ⟨#[]⟩] 9))
          go_wp2_with (at_builtin; refine wpList_append_str rfl _ _ rfl rfl hend.out _ [] rfl hnwE.out (by have := hlen.out; omega) (by have := hq'.out.box.lt; simp; omega) ?_; intro v14 w14 ho14 hg14; have ho14' := Lib.hid ho14; have hg14' := Lib.hid hg14; clear ho14 hg14)
          go_ret
          refine ⟨_, rfl, ?_, hbE.out.grown hg14'.out (by have := hq'.out.be.size; simp; omega) (fun g e => by have := (hend.out.own g e).1; omega)⟩
          rw [hsp'.out, hnp'.out]
          exact ho14'.out.mono (Nat.le_succ _)
end Go.Proofs.YtlbiniibkbhghaaGreatDoor
