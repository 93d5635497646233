import Derived.Test.YtdkmajmmhngdpaaDoorFdS
namespace Go.Proofs.YtdkmajmmhngdpaaDoor
open Go.RowKit Go.Maps

/-! ## The document's Retry, Counts, Name -/
theorem right_at (ki : Int) (nm vl : List UInt8) (w0 w : World) (hb : Below w0.heap.size w0 w) (hwf : (Lit.int .i64 ki).wf = true) (h1 : nm.length ≤ 400000) (h2 : vl.length ≤ 400000) : Calls Tryd.prog 35 #[.agg #[.int .i64 ki, .string ⟨nm.toArray⟩, .string ⟨vl.toArray⟩]] w fun e w' => e = .returned (.bool (sayF (ki, nm, vl))) ∧ Below w.heap.size w w' ∧ Below w0.heap.size w0 w' := by
  refine (rightF_any (ki, nm, vl) w hwf h1 h2).mono ?_
  rintro e w' ⟨rfl, h⟩
  exact ⟨rfl, h, hb.trans (h.mono hb.size)⟩
set_option maxRecDepth 100000 in
theorem refRetryF_any (f : Int × List UInt8 × List UInt8) (w : World) (hwf : (Lit.int .i64 f.1).wf = true) (h1 : f.2.1.length ≤ 400000) (h2 : f.2.2.length ≤ 400000) :
    Calls Tryd.prog 27 #[fieldV f] w fun e w' => e = Retr (retryF f) ∧ Below w.heap.size w w' := by
  obtain ⟨ki, nm, vl⟩ := f
  simp only at hwf h1 h2
  unfold fieldV
  simp only
  have hb0 : Below w.heap.size w (w.alloc (.cells #[.int .i64 ki, .string ⟨nm.toArray⟩, .string ⟨vl.toArray⟩] 37)) := (Below.refl _ _).alloc (Nat.le_refl _) _
  have hc := right_at ki nm vl w (w.alloc (.cells #[.int .i64 ki, .string ⟨nm.toArray⟩, .string ⟨vl.toArray⟩] 37)) hb0 hwf h1 h2
  have kR := Lib.hid (Has.new w 37 #[.int .i64 ki, .string ⟨nm.toArray⟩, .string ⟨vl.toArray⟩])
  have hd := fun W => refDigits_any ⟨vl.toArray⟩ (by show vl.toArray.size ≤ _; simp; omega) W
  rw [show (ByteArray.mk vl.toArray).data.toList = vl from by simp] at hd
  have hr : retryF (ki, nm, vl) = if sayF (ki, nm, vl) = true ∧ ki = 6 then ((numR 10 vl).1, (numR 10 vl).2 == 0) else (0, false) := rfl
  have hb0' := Lib.hid hb0
  clear hb0 hwf
  cases hs : sayF (ki, nm, vl) with
  | false =>
    rw [hs] at hc hr
    rw [if_neg (fun e => by cases e.1)] at hr
    have hr' := Lib.hid hr
    have hc' := Lib.hid hc
    clear hr hc hd hs
    go_enter Tryd.func27, Tryd.ntmps27
    go_wp2_with ((go_at_call 35; (with_reducible refine Calls.mono hc'.out ?_); rintro e w2 ⟨rfl, hb2, hb3⟩))
    go_ret2
    exact ⟨retr_of hr'.out, hb3⟩
  | true =>
    rw [hs] at hc hr
    by_cases k6 : ki = 6
    · subst k6
      rw [if_pos ⟨rfl, rfl⟩] at hr
      have hr' := Lib.hid hr
      have hc' := Lib.hid hc
      clear hr hc hs
      generalize numR 10 vl = r at hd hr'
      have hd' := Lib.hid hd
      clear hd
      go_enter Tryd.func27, Tryd.ntmps27
      go_wp2_with (first
        | (go_at_call 35; (with_reducible refine Calls.mono hc'.out ?_); rintro e w2 ⟨rfl, hb2, hb3⟩; have x0 := (kR.out.below hb2 kR.out.lt).cell 0; have x2 := (kR.out.below hb2 kR.out.lt).cell 2; have hb3' := Lib.hid hb3; clear hb2 hb3)
        | (go_at_call 21; (with_reducible refine Calls.mono (hd'.out _) ?_); rintro e w4 ⟨rfl, rfl⟩; simp only [Two]))
      go_ret2
      exact ⟨retr_of hr'.out, hb3'.out⟩
    · rw [if_neg (fun e => k6 e.2)] at hr
      have hr' := Lib.hid hr
      have hc' := Lib.hid hc
      clear hr hc hd hs
      go_enter Tryd.func27, Tryd.ntmps27
      go_wp2_with ((go_at_call 35; (with_reducible refine Calls.mono hc'.out ?_); rintro e w2 ⟨rfl, hb2, hb3⟩; have x0 := (kR.out.below hb2 kR.out.lt).cell 0; have hb3' := Lib.hid hb3; clear hb2 hb3))
      go_ret2
      exact ⟨retr_of hr'.out, hb3'.out⟩
set_option maxRecDepth 100000 in
theorem refNameF_any (z : Int) (w : World) : Calls Tryd.prog 34 #[.int .i64 z] w fun e w' => e = .returned (.string ⟨(nameF z).toArray⟩) ∧ Below w.heap.size w w' := by
  by_cases h0 : z < 1
  · have e : nameF z = [] := by
      unfold nameF
      split
      · rfl
      · have : z = 0 := by omega
        subst this
        rfl
    rw [e]
    go_enter Tryd.func34, Tryd.ntmps34
    go_wp2
    go_ret
    exact ⟨rfl, Below.refl _ _⟩
  · by_cases h8 : 7 < z
    · have e : nameF z = [] := by
        unfold nameF
        rw [if_neg (by omega)]
        rw [List.getD_eq_getElem?_getD, List.getElem?_eq_none (by show 8 ≤ z.toNat; omega)]
        rfl
      rw [e]
      have h0' : ¬ z < 1 := h0
      go_enter Tryd.func34, Tryd.ntmps34
      go_wp2
      go_ret
      exact ⟨rfl, Below.refl _ _⟩
    · have hz : z = 1 ∨ z = 2 ∨ z = 3 ∨ z = 4 ∨ z = 5 ∨ z = 6 ∨ z = 7 := by omega
      rcases hz with rfl | rfl | rfl | rfl | rfl | rfl | rfl
      all_goals
        go_enter Tryd.func34, Tryd.ntmps34
        go_wp2
        go_ret
        exact ⟨rfl, (Below.refl _ _).alloc (Nat.le_refl _) _⟩
end Go.Proofs.YtdkmajmmhngdpaaDoor
