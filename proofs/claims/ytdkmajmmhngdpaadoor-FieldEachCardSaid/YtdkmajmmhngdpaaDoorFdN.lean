import Derived.Test.YtdkmajmmhngdpaaDoorFdM
import Derived.Laws.StructEq
namespace Go.Proofs.YtdkmajmmhngdpaaDoor
open Go.RowKit Go.Maps

/-! ## Counts -/
theorem askOf5 (b : Nat) : askOf 5 b = .func (.func 92) #[] #[.pointer (some ⟨b, 0, none⟩)] := rfl
theorem askOf6 (b : Nat) : askOf 6 b = .func (.func 93) #[] #[.pointer (some ⟨b, 0, none⟩)] := rfl
theorem askOfN {ki : Int} (h5 : ki ≠ 5) (h6 : ki ≠ 6) (b : Nat) : askOf ki b = .func (.func 62) #[] #[] := by
  unfold askOf; rw [if_neg h5, if_neg h6]
theorem askTo_any (ki : Int) (vl : List UInt8) (B : Nat) (v : Value) (b : Nat) (w : World) (hv : askOf ki b = v) (hb : Has w b 9 #[.string ⟨vl.toArray⟩]) (h2 : vl.length ≤ 1000000) (hT : Tab w) (hB : B ≤ w.heap.size) (Q : Bool) (hQ : (if ki = 5 then !hasNought vl else if ki = 6 then digitsOk vl else true) = Q) :
    ∃ f cs, v = .func (.func f) #[] cs ∧ (∀ W, (callFunc f cs).run Tryd.prog W = .ok (.enter f cs) W) ∧ Calls Tryd.prog f cs w fun e w' => e = .returned (.bool Q) ∧ Below B w w' := by
  subst hv hQ
  by_cases k5 : ki = 5
  · subst k5
    refine ⟨_, _, askOf5 b, fun W => by kernel_rfl, (ask1_any b vl w hb).mono ?_⟩
    rintro e w' ⟨rfl, rfl⟩
    exact ⟨rfl, Below.refl _ _⟩
  by_cases k6 : ki = 6
  · subst k6
    refine ⟨_, _, askOf6 b, fun W => by kernel_rfl, (ask2_any b vl w hb h2 hT).mono ?_⟩
    rintro e w' ⟨rfl, h⟩
    exact ⟨rfl, h.mono hB⟩
  · refine ⟨_, _, askOfN k5 k6 b, fun W => by kernel_rfl, (ask0_any w).mono ?_⟩
    rintro e w' ⟨rfl, rfl⟩
    rw [if_neg k5, if_neg k6]
    exact ⟨rfl, Below.refl _ _⟩
set_option maxRecDepth 100000 in
theorem countsF_any (f : Int × List UInt8 × List UInt8) (w : World) (hwf : (Lit.int .i64 f.1).wf = true) (h1 : f.2.1.length ≤ 1000000) (h2 : f.2.2.length ≤ 1000000) (hN : NamesT w) (hT : Tab w) :
    Calls Tryd.prog 29 #[fieldV f] w fun e w' => e = .returned (.bool (countsF f)) ∧ Below w.heap.size w w' := by
  obtain ⟨ki, nm, vl⟩ := f
  simp only at h1 h2 hwf
  unfold fieldV
  simp only
  have hb1 : Below w.heap.size w ((w.alloc (.cells #[.int .i64 ki, .string ⟨nm.toArray⟩, .string ⟨vl.toArray⟩] 37)).alloc (.cells (undCells (ki, nm, vl) []) 81)) := ((Below.refl _ _).alloc (Nat.le_refl _) _).alloc (by simp) _
  have kU := Has.new (w.alloc (.cells #[.int .i64 ki, .string ⟨nm.toArray⟩, .string ⟨vl.toArray⟩] 37)) 81 (undCells (ki, nm, vl) [])
  have kR := (Has.new w 37 #[.int .i64 ki, .string ⟨nm.toArray⟩, .string ⟨vl.toArray⟩]).alloc (.cells (undCells (ki, nm, vl) []) 81)
  simp only [World.size_alloc] at kU
  obtain ⟨w1, hw1⟩ : ∃ w1, (w.alloc (.cells #[.int .i64 ki, .string ⟨nm.toArray⟩, .string ⟨vl.toArray⟩] 37)).alloc (.cells (undCells (ki, nm, vl) []) 81) = w1 := ⟨_, rfl⟩
  have z1 : w1.heap.size = w.heap.size + 1 + 1 := by rw [← hw1]; simp
  rw [hw1] at hb1 kU kR
  have hw1' := Lib.hid hw1
  have hsy := Lib.hid (sayF_any (w.heap.size + 1) (ki, nm, vl) [] w1 kU h1 (hN.below hb1))
  have hT1 := Lib.hid (hT.below hb1)
  have hb1' := Lib.hid hb1
  have z1' := Lib.hid z1
  have hr1' := Lib.hid kR
  have hall := Lib.hid (fun (W : World) (h : Below w1.heap.size w1 W) => show W.cell? ⟨w.heap.size, 0, none⟩ = some (.int .i64 ki) ∧ W.cell? ⟨w.heap.size, 2, none⟩ = some (.string ⟨vl.toArray⟩) from ⟨(kR.below h (by omega)).cell 0, (kR.below h (by omega)).cell 2⟩)
  clear hw1 hb1 kU z1 hN hT kR
  have hlo : countsF (ki, nm, vl) = (sayF (ki, nm, vl) && (if ki = 5 then !hasNought vl else if ki = 6 then digitsOk vl else true)) := rfl
  have hlo' := Lib.hid hlo
  clear hlo
  obtain ⟨sy, hsye⟩ : ∃ sy, sayF (ki, nm, vl) = sy := ⟨_, rfl⟩
  obtain ⟨Q, hQ⟩ : ∃ Q, (if ki = 5 then !hasNought vl else if ki = 6 then digitsOk vl else true) = Q := ⟨_, rfl⟩
  unfold SayF at hsy
  rw [hsye] at hsy hlo'
  rw [hQ] at hlo'
  have hQ' := Lib.hid hQ
  clear hsye hQ
  cases sy
  · rw [Bool.false_and] at hlo'
    rw [hlo'.out]
    go_enter Tryd.func29, Tryd.ntmps29
    go_upto_region 2 with (fail)
    rw [show (w.alloc (.cells #[.int .i64 ki, .string ⟨nm.toArray⟩, .string ⟨vl.toArray⟩] 37)).alloc (.cells #[.int .i64 ki, .string ⟨nm.toArray⟩, .string ⟨vl.toArray⟩, .string ⟨#[]⟩] 81) = w1 from hw1'.out]
    go_wp2_with (go_at_call 58; (with_reducible refine Calls.mono hsy.out ?_); rintro e w2 ⟨rfl, hb2⟩; have hb2' := Lib.hid hb2; clear hb2)
    go_ret
    exact ⟨rfl, hb1'.out.trans (hb2'.out.mono hb1'.out.size)⟩
  · rw [Bool.true_and] at hlo'
    rw [hlo'.out]
    go_enter Tryd.func29, Tryd.ntmps29
    go_upto_region 2 with (fail)
    rw [show (w.alloc (.cells #[.int .i64 ki, .string ⟨nm.toArray⟩, .string ⟨vl.toArray⟩] 37)).alloc (.cells #[.int .i64 ki, .string ⟨nm.toArray⟩, .string ⟨vl.toArray⟩, .string ⟨#[]⟩] 81) = w1 from hw1'.out]
    go_upto_region 4 with (go_at_call 58; (with_reducible refine Calls.mono hsy.out ?_); rintro e w2 ⟨rfl, hb2⟩; have hb2' := Lib.hid hb2; have hT2 := Lib.hid (hT1.out.below hb2); have hb0 := Lib.hid (hb2.drew); clear hb2)
    go_region_held3 (fun W => W.cell? ⟨w.heap.size, 0, none⟩ = some (.int .i64 ki) ∧ W.cell? ⟨w.heap.size, 2, none⟩ = some (.string ⟨vl.toArray⟩))
      (first
      | with_reducible exact hall.out _ hb3'.out
      | with_reducible exact hall.out _ hb0.out
      | fail)
      (first
      | (go_at_call 61; (with_reducible refine Calls.mono (asks_any vl _) ?_); rintro e w3 ⟨m, rfl, hown, hst, hb3⟩; have hb3' := Lib.hid (hb0.out.trans (hb3.mono hb0.out.size)); have hfo := Lib.hid (foundA_any m _ ki w3 hwf hown); have hst' := Lib.hid hst; have hT3 := Lib.hid (hT2.out.below (show Below w2.heap.size w2 w3 from (Below.refl _ _).drew.trans hb3)); have hz3 := Lib.hid hb3.size; clear hown hst hb3)
      | (go_at_call 60; (with_reducible refine Calls.mono hfo.out ?_); rintro e w4 ⟨rfl, rfl⟩)
      | fail)
    obtain ⟨fv, cs, hv, hrun, hc⟩ := askTo_any ki vl w3.heap.size _ _ w3 rfl hst'.out h2 hT3.out (Nat.le_refl _) Q hQ'.out
    rw [show askOf ki w2.heap.size = .func (.func fv) #[] cs from hv]
    have hc' := Lib.hid hc
    clear hc hv
    go_wp2_with ((with_reducible refine Calls.mono hc'.out ?_); rintro e w5 ⟨rfl, hb5⟩)
    go_ret
    exact ⟨rfl, hb1'.out.trans ((hb3'.out.trans (hb5.mono hb3'.out.size)).mono hb1'.out.size)⟩
/-! ## Retry -/
def Retr (r : Int × Bool) : Ending := .returned (.tuple #[.int .u64 r.1, .bool r.2])
theorem retr_of {r : Int × Bool} {x : Int} {y : Bool} (h : r = (x, y)) : Ending.returned (.tuple #[.int .u64 x, .bool y]) = Retr r := by rw [h]; rfl
set_option maxRecDepth 100000 in
theorem retryF_any (f : Int × List UInt8 × List UInt8) (w : World) (hwf : (Lit.int .i64 f.1).wf = true) (h1 : f.2.1.length ≤ 1000000) (h2 : f.2.2.length ≤ 1000000) (hN : NamesT w) (hT : Tab w) :
    Calls Tryd.prog 26 #[fieldV f] w fun e w' => e = Retr (retryF f) ∧ Below w.heap.size w w' := by
  obtain ⟨ki, nm, vl⟩ := f
  have hb0 : Below w.heap.size w (w.alloc (.cells #[.int .i64 ki, .string ⟨nm.toArray⟩, .string ⟨vl.toArray⟩] 37)) := (Below.refl _ _).alloc (Nat.le_refl _) _
  have hc := Lib.hid (countsF_any (ki, nm, vl) (w.alloc (.cells #[.int .i64 ki, .string ⟨nm.toArray⟩, .string ⟨vl.toArray⟩] 37)) hwf h1 h2 (hN.below hb0) (hT.below hb0))
  have hb0' := Lib.hid hb0
  have kR := Lib.hid (Has.new w 37 #[.int .i64 ki, .string ⟨nm.toArray⟩, .string ⟨vl.toArray⟩])
  unfold fieldV at hc ⊢
  simp only at hc h2 ⊢
  have hd := fun W => digitsCall_any ⟨vl.toArray⟩ (by show vl.toArray.size ≤ _; simp; omega) W
  rw [show (ByteArray.mk vl.toArray).data.toList = vl from by simp] at hd
  have hT' := Lib.hid (hT.below hb0)
  clear hN hT hb0
  by_cases k6 : ki = 6
  · subst k6
    have hcf : countsF (6, nm, vl) = (sayF (6, nm, vl) && digitsOk vl) := rfl
    cases hs : countsF (6, nm, vl) with
    | false =>
      have hres : retryF (6, nm, vl) = (0, false) := by
        rw [hcf] at hs
        unfold retryF
        by_cases h : sayF (6, nm, vl) = true
        · rw [h, Bool.true_and] at hs
          rw [if_pos ⟨h, rfl⟩, numR_bad 10 vl (by unfold digitsOk at hs; simpa using hs), hs]
        · rw [if_neg (fun e => h e.1)]
      have hres' := Lib.hid hres
      rw [hs] at hc
      clear hres hs hcf hd
      go_enter Tryd.func26, Tryd.ntmps26
      go_wp2_with ((go_at_call 29; (with_reducible refine Calls.mono hc.out ?_); rintro e w2 ⟨rfl, hb2⟩))
      go_ret2
      exact ⟨retr_of hres'.out, hb0'.out.trans (hb2.mono hb0'.out.size)⟩
    | true =>
      rw [hcf, Bool.and_eq_true] at hs
      have hres : retryF (6, nm, vl) = ((numR 10 vl).1, true) := by unfold retryF; rw [if_pos ⟨hs.1, rfl⟩, hs.2]
      have hres' := Lib.hid hres
      rw [hcf, hs.1, hs.2] at hc
      clear hres hs hcf
      generalize numR 10 vl = r at hd hres'
      have hd' := Lib.hid hd
      clear hd
      go_enter Tryd.func26, Tryd.ntmps26
      go_wp2_with (first
        | (go_at_call 29; (with_reducible refine Calls.mono hc.out ?_); rintro e w2 ⟨rfl, hb2⟩; have hb2' := Lib.hid hb2; have hT2 := Lib.hid (hT'.out.below hb2); have x2 := (kR.out.below hb2 kR.out.lt).cell 2; clear hb2)
        | (go_at_call 14; (with_reducible refine Calls.mono (hd'.out _ hT2.out) ?_); rintro e w3 ⟨rfl, hb3⟩; simp only [Two]))
      go_ret2
      exact ⟨retr_of hres'.out, hb0'.out.trans ((hb2'.out.trans (hb3.mono hb2'.out.size)).mono hb0'.out.size)⟩
  · have hres : retryF (ki, nm, vl) = (0, false) := by unfold retryF; rw [if_neg (fun e => k6 e.2)]
    have hres' := Lib.hid hres
    clear hres hd
    go_enter Tryd.func26, Tryd.ntmps26
    go_wp2
    go_ret2
    exact ⟨retr_of hres'.out, hb0'.out⟩
end Go.Proofs.YtdkmajmmhngdpaaDoor
