import Derived.Test.YtlcfpnegpihicaaGreatDoorPk27
import Derived.Test.YtlcfpnegpihicaaGreatDoorPk28
import Derived.Deep.RegionHeld3
import Derived.Test.YtlcfpnegpihicaaGreatDoorPk26
import Derived.Test.YtlcfpnegpihicaaGreatDoorPk21
import Derived.Test.YtlcfpnegpihicaaGreatDoorPk23
import Derived.Test.YtlcfpnegpihicaaGreatDoorPk24
import Derived.Deep.CutRange
namespace Go.Proofs.YtlcfpnegpihicaaGreatDoor
open Go.RowKit Go.Maps

/-! ## The document's Line, Right -/
theorem cat_mk (a b : List UInt8) : (⟨a.toArray⟩ : ByteArray) ++ ⟨b.toArray⟩ = ⟨(a ++ b).toArray⟩ := by
  apply ByteArray.ext
  simp [ByteArray.data_append]
set_option maxRecDepth 100000 in
theorem refLineF_any (f : Int × List UInt8 × List UInt8) (w : World) (h1 : f.2.1.length ≤ 1000000) (h2 : f.2.2.length ≤ 1000000) : Calls Tryz.prog 95 #[.agg #[.int .i64 f.1, .string ⟨f.2.1.toArray⟩, .string ⟨f.2.2.toArray⟩]] w fun e w' => e = .returned (.string ⟨(refLine f).toArray⟩) ∧ Below w.heap.size w w' := by
  obtain ⟨ki, nm, vl⟩ := f
  simp only at h1 h2 ⊢
  have hr : refLine (ki, nm, vl) = if ki = 2 then 58 :: vl else if vl = [] then nm else nm ++ 58 :: 32 :: vl := rfl
  by_cases k2 : ki = 2
  · subst k2
    rw [if_pos rfl] at hr
    have hr' := Lib.hid hr
    clear hr
    have hcat := cat_mk [58] vl
    simp only [List.cons_append, List.nil_append] at hcat
    go_enter Tryz.func95, Tryz.ntmps95
    go_wp2
    go_ret
    exact ⟨by rw [hr'.out]; rfl, (Below.refl _ _).alloc (Nat.le_refl _) _⟩
  · rw [if_neg k2] at hr
    by_cases hv : vl = []
    · subst hv
      rw [if_pos rfl] at hr
      have hr' := Lib.hid hr
      clear hr
      go_enter Tryz.func95, Tryz.ntmps95
      go_wp2
      go_ret
      exact ⟨by rw [hr'.out]; rfl, (Below.refl _ _).alloc (Nat.le_refl _) _⟩
    · rw [if_neg hv] at hr
      have hie := isE hv
      have hr' := Lib.hid hr
      clear hr
      have hc1 := cat_mk nm [58, 32]
      have hc2 := cat_mk (nm ++ [58, 32]) vl
      rw [show nm ++ [58, 32] ++ vl = nm ++ 58 :: 32 :: vl by simp] at hc2
      obtain ⟨t, ht⟩ : ∃ t, nm ++ [58, 32] = t := ⟨_, rfl⟩
      have hl : t.length ≤ 1000002 := by rw [← ht]; simp; omega
      rw [ht] at hc1 hc2
      clear ht
      go_enter Tryz.func95, Tryz.ntmps95
      go_wp2
      go_ret
      exact ⟨by rw [hr'.out]; rfl, (Below.refl _ _).alloc (Nat.le_refl _) _⟩
theorem refLine_len (f : Int × List UInt8 × List UInt8) (h1 : f.2.1.length ≤ 400000) (h2 : f.2.2.length ≤ 400000) : (refLine f).length ≤ 1000000 := by
  unfold refLine
  split
  · simp; omega
  · split
    · omega
    · simp; omega
set_option maxRecDepth 100000 in
theorem rightF_any (f : Int × List UInt8 × List UInt8) (w : World) (hwf : (Lit.int .i64 f.1).wf = true) (h1 : f.2.1.length ≤ 400000) (h2 : f.2.2.length ≤ 400000) : Calls Tryz.prog 70 #[.agg #[.int .i64 f.1, .string ⟨f.2.1.toArray⟩, .string ⟨f.2.2.toArray⟩]] w fun e w' => e = .returned (.bool (sayF f)) ∧ Below w.heap.size w w' := by
  have hln := refLine_len f h1 h2
  have hfl := fieldF_len (refLine f)
  have hcl := fun W => refLineF_any f W (by omega) (by omega)
  have hco := fun W => refOfF_any (refLine f) W hln
  have heq := fun W => field_equal (fieldF (refLine f)) f (fieldF_wf _) hwf (by omega) (by omega) (by omega) (by omega) W
  rw [right_say] at heq
  have hcl' := Lib.hid hcl
  have hco' := Lib.hid hco
  clear hcl hco hfl hln
  have kB := Has.new w 104 #[.int .i64 f.1, .string ⟨f.2.1.toArray⟩, .string ⟨f.2.2.toArray⟩]
  have hb1 : Below w.heap.size w (w.alloc (.cells #[.int .i64 f.1, .string ⟨f.2.1.toArray⟩, .string ⟨f.2.2.toArray⟩] 104)) := (Below.refl _ _).alloc (Nat.le_refl _) _
  obtain ⟨w1, hw1⟩ : ∃ w1, w.alloc (.cells #[.int .i64 f.1, .string ⟨f.2.1.toArray⟩, .string ⟨f.2.2.toArray⟩] 104) = w1 := ⟨_, rfl⟩
  rw [hw1] at kB hb1
  have hw1' := Lib.hid hw1
  have z1 : w1.heap.size = w.heap.size + 1 := by rw [← hw1]; simp
  have hall := Lib.hid (fun (W : World) (h : Below w1.heap.size w1 W) => show W.cell? ⟨w.heap.size, 0, none⟩ = some (.int .i64 f.1) ∧ W.cell? ⟨w.heap.size, 1, none⟩ = some (.string ⟨f.2.1.toArray⟩) ∧ W.cell? ⟨w.heap.size, 2, none⟩ = some (.string ⟨f.2.2.toArray⟩) from
    have hX := kB.below h (by omega)
    ⟨hX.cell 0, hX.cell 1, hX.cell 2⟩)
  have hb1' := Lib.hid hb1
  have hc0 := Lib.hid (Below.refl w1.heap.size w1).drew
  clear hw1 z1 kB hb1 hwf
  generalize sayF f = Q at heq ⊢
  generalize refLine f = l at heq hcl' hco'
  generalize fieldF l = g at heq hco'
  obtain ⟨ki, nm, vl⟩ := f
  obtain ⟨k2, n2, v2⟩ := g
  simp only [fieldV] at *
  go_enter Tryz.func70, Tryz.ntmps70
  go_upto_region 1 with fail
  rw [show w.alloc (.cells #[.int .i64 ki, .string ⟨nm.toArray⟩, .string ⟨vl.toArray⟩] 104) = w1 from hw1'.out]
  go_region_held3 (fun W => W.cell? ⟨w.heap.size, 0, none⟩ = some (.int .i64 ki) ∧ W.cell? ⟨w.heap.size, 1, none⟩ = some (.string ⟨nm.toArray⟩) ∧ W.cell? ⟨w.heap.size, 2, none⟩ = some (.string ⟨vl.toArray⟩))
    (first
    | with_reducible exact hall.out _ hc3.out
    | with_reducible exact hall.out _ hc2.out
    | with_reducible exact hall.out _ hc0.out
    | fail)
    (first
    | (go_at_call 95; (with_reducible refine Calls.mono (hcl'.out _) ?_); rintro e w2 ⟨rfl, hl2⟩; have hc2 := Lib.hid (hc0.out.trans (hl2.mono hc0.out.size)); clear hl2)
    | (go_at_call 51; (with_reducible refine Calls.mono (hco'.out _) ?_); rintro e w3 ⟨rfl, hl3⟩; have hc3 := Lib.hid (hc2.out.trans (hl3.mono hc2.out.size)); clear hl3)
    | fail)
  go_wp2
  go_ret
  exact ⟨rfl, hb1'.out.trans (hc3.out.mono hb1'.out.size)⟩
end Go.Proofs.YtlcfpnegpihicaaGreatDoor

namespace Go.Proofs.YtlcfpnegpihicaaGreatDoor
open Go.RowKit Go.Maps

/-! ## The document's Retry, Counts, Name -/
theorem right_at (ki : Int) (nm vl : List UInt8) (w0 w : World) (hb : Below w0.heap.size w0 w) (hwf : (Lit.int .i64 ki).wf = true) (h1 : nm.length ≤ 400000) (h2 : vl.length ≤ 400000) : Calls Tryz.prog 70 #[.agg #[.int .i64 ki, .string ⟨nm.toArray⟩, .string ⟨vl.toArray⟩]] w fun e w' => e = .returned (.bool (sayF (ki, nm, vl))) ∧ Below w.heap.size w w' ∧ Below w0.heap.size w0 w' := by
  refine (rightF_any (ki, nm, vl) w hwf h1 h2).mono ?_
  rintro e w' ⟨rfl, h⟩
  exact ⟨rfl, h, hb.trans (h.mono hb.size)⟩
set_option maxRecDepth 100000 in
theorem refRetryF_any (f : Int × List UInt8 × List UInt8) (w : World) (hwf : (Lit.int .i64 f.1).wf = true) (h1 : f.2.1.length ≤ 400000) (h2 : f.2.2.length ≤ 400000) :
    Calls Tryz.prog 54 #[fieldV f] w fun e w' => e = Retr (retryF f) ∧ Below w.heap.size w w' := by
  obtain ⟨ki, nm, vl⟩ := f
  simp only at hwf h1 h2
  unfold fieldV
  simp only
  have hb0 : Below w.heap.size w (w.alloc (.cells #[.int .i64 ki, .string ⟨nm.toArray⟩, .string ⟨vl.toArray⟩] 104)) := (Below.refl _ _).alloc (Nat.le_refl _) _
  have hc := right_at ki nm vl w (w.alloc (.cells #[.int .i64 ki, .string ⟨nm.toArray⟩, .string ⟨vl.toArray⟩] 104)) hb0 hwf h1 h2
  have kR := Lib.hid (Has.new w 104 #[.int .i64 ki, .string ⟨nm.toArray⟩, .string ⟨vl.toArray⟩])
  have hd := fun W => refDigits_any ⟨vl.toArray⟩ (by show vl.toArray.size ≤ _; simp; omega) W
  rw [show (ByteArray.mk vl.toArray).data.toList = vl from by simp] at hd
  have hr : retryF (ki, nm, vl) = if sayF (ki, nm, vl) = true ∧ ki = 6 then ((numR 10 vl).1, (numR 10 vl).2 == 0) else (0, false) := rfl
  have hb0' := Lib.hid hb0
  clear hb0 hwf
  cases hs : sayF (ki, nm, vl) with
  | false =>
    rw [hs] at hc hr
    rw [if_neg (fun e => by cases e.1)] at hr
    have hr' := Lib.hid hr
    have hc' := Lib.hid hc
    clear hr hc hd hs
    go_enter Tryz.func54, Tryz.ntmps54
    go_wp2_with ((go_at_call 70; (with_reducible refine Calls.mono hc'.out ?_); rintro e w2 ⟨rfl, hb2, hb3⟩))
    go_ret2
    exact ⟨retr_of hr'.out, hb3⟩
  | true =>
    rw [hs] at hc hr
    by_cases k6 : ki = 6
    · subst k6
      rw [if_pos ⟨rfl, rfl⟩] at hr
      have hr' := Lib.hid hr
      have hc' := Lib.hid hc
      clear hr hc hs
      generalize numR 10 vl = r at hd hr'
      have hd' := Lib.hid hd
      clear hd
      go_enter Tryz.func54, Tryz.ntmps54
      go_wp2_with (first
        | (go_at_call 70; (with_reducible refine Calls.mono hc'.out ?_); rintro e w2 ⟨rfl, hb2, hb3⟩; have x0 := (kR.out.below hb2 kR.out.lt).cell 0; have x2 := (kR.out.below hb2 kR.out.lt).cell 2; have hb3' := Lib.hid hb3; clear hb2 hb3)
        | (go_at_call 71; (with_reducible refine Calls.mono (hd'.out _) ?_); rintro e w4 ⟨rfl, rfl⟩; simp only [Two]))
      go_ret2
      exact ⟨retr_of hr'.out, hb3'.out⟩
    · rw [if_neg (fun e => k6 e.2)] at hr
      have hr' := Lib.hid hr
      have hc' := Lib.hid hc
      clear hr hc hd hs
      go_enter Tryz.func54, Tryz.ntmps54
      go_wp2_with ((go_at_call 70; (with_reducible refine Calls.mono hc'.out ?_); rintro e w2 ⟨rfl, hb2, hb3⟩; have x0 := (kR.out.below hb2 kR.out.lt).cell 0; have hb3' := Lib.hid hb3; clear hb2 hb3))
      go_ret2
      exact ⟨retr_of hr'.out, hb3'.out⟩
end Go.Proofs.YtlcfpnegpihicaaGreatDoor

namespace Go.Proofs.YtlcfpnegpihicaaGreatDoor
open Go.RowKit Go.Maps

/-! ## The document's Counts -/
theorem retry_at (ki : Int) (nm vl : List UInt8) (w0 w : World) (hb : Below w0.heap.size w0 w) (hwf : (Lit.int .i64 ki).wf = true) (h1 : nm.length ≤ 400000) (h2 : vl.length ≤ 400000) (n : Int) (b : Bool) (hr : retryF (ki, nm, vl) = (n, b)) : Calls Tryz.prog 54 #[.agg #[.int .i64 ki, .string ⟨nm.toArray⟩, .string ⟨vl.toArray⟩]] w fun e w' => e = .returned (.tuple #[.int .u64 n, .bool b]) ∧ Below w.heap.size w w' ∧ Below w0.heap.size w0 w' := by
  refine (refRetryF_any (ki, nm, vl) w hwf h1 h2).mono ?_
  rintro e w' ⟨rfl, h⟩
  rw [hr]
  exact ⟨rfl, h, hb.trans (h.mono hb.size)⟩
set_option maxRecDepth 100000 in
theorem refCountsF_any (f : Int × List UInt8 × List UInt8) (w : World) (hwf : (Lit.int .i64 f.1).wf = true) (h1 : f.2.1.length ≤ 400000) (h2 : f.2.2.length ≤ 400000) :
    Calls Tryz.prog 52 #[fieldV f] w fun e w' => e = .returned (.bool (countsF f)) ∧ Below w.heap.size w w' := by
  obtain ⟨ki, nm, vl⟩ := f
  simp only at hwf h1 h2
  unfold fieldV
  simp only
  have hb0 : Below w.heap.size w (w.alloc (.cells #[.int .i64 ki, .string ⟨nm.toArray⟩, .string ⟨vl.toArray⟩] 104)) := (Below.refl _ _).alloc (Nat.le_refl _) _
  have hc := right_at ki nm vl w (w.alloc (.cells #[.int .i64 ki, .string ⟨nm.toArray⟩, .string ⟨vl.toArray⟩] 104)) hb0 hwf h1 h2
  have kR := Lib.hid (Has.new w 104 #[.int .i64 ki, .string ⟨nm.toArray⟩, .string ⟨vl.toArray⟩])
  have hcf : countsF (ki, nm, vl) = (sayF (ki, nm, vl) && (if ki = 5 then !hasNought vl else if ki = 6 then digitsOk vl else true)) := rfl
  have hrf : retryF (ki, nm, vl) = if sayF (ki, nm, vl) = true ∧ ki = 6 then ((numR 10 vl).1, digitsOk vl) else (0, false) := rfl
  clear hb0
  cases hs : sayF (ki, nm, vl) with
  | false =>
    rw [hs] at hc hcf
    rw [Bool.false_and] at hcf
    rw [hcf]
    have hc' := Lib.hid hc
    clear hcf hrf hc hs
    go_enter Tryz.func52, Tryz.ntmps52
    go_wp2_with ((go_at_call 70; (with_reducible refine Calls.mono hc'.out ?_); rintro e w2 ⟨rfl, hb2, hb3⟩))
    go_ret
    exact ⟨rfl, hb3⟩
  | true =>
    rw [hs] at hc hcf hrf
    rw [Bool.true_and] at hcf
    have hc' := Lib.hid hc
    clear hc hs
    by_cases k5 : ki = 5
    · subst k5
      rw [if_pos rfl] at hcf
      rw [if_neg (fun e => absurd e.2 (by decide))] at hrf
      have hrt := Lib.hid (fun W hb => retry_at 5 nm vl w W hb hwf h1 h2 0 false hrf)
      have hcf' := Lib.hid hcf
      clear hrf hcf
      go_enter Tryz.func52, Tryz.ntmps52
      go_wp2_with ((go_at_call 70; (with_reducible refine Calls.mono hc'.out ?_); rintro e w2 ⟨rfl, hb2, hb3⟩; have x0 := (kR.out.below hb2 kR.out.lt).cell 0; have x1 := (kR.out.below hb2 kR.out.lt).cell 1; have x2 := (kR.out.below hb2 kR.out.lt).cell 2; have kR2 := Lib.hid (kR.out.below hb2 kR.out.lt); have hb3' := Lib.hid hb3; clear hb2 hb3))
      go_loopw [3] (fun v W => ∃ k : Nat, v = .int .i64 (k : Int) ∧ k ≤ vl.length ∧ (0 : UInt8) ∉ vl.take k ∧ W = w2) (fun v _ => vl.length - (intOf v).toNat)
      case atStart => exact ⟨0, rfl, Nat.zero_le _, by simp, rfl⟩
      case round =>
        obtain ⟨k, rfl, hk, hno, rfl⟩ := hrel
        have hno' := Lib.hid hno
        clear hno
        by_cases hlt : k < vl.length
        · have hltI : (k : Int) < (vl.length : Int) := by omega
          by_cases hz : vl[k] = 0
          · have hne : ((((⟨vl.toArray⟩ : ByteArray)[k]'hlt).toNat : Int) == 0) = true := by
              rw [byte_at vl k hlt, hz]; rfl
            have hres := Lib.hid (hasNought_yes (l := vl) (hz ▸ List.getElem_mem hlt))
            clear hz
            go_wp2_with fail
            go_ret
            exact ⟨by rw [hcf'.out, hres.out]; rfl, hb3'.out⟩
          · have hne : ((((⟨vl.toArray⟩ : ByteArray)[k]'hlt).toNat : Int) == 0) = false := by
              rw [byte_at vl k hlt, beq_eq_false_iff_ne]
              intro e
              exact hz (UInt8.toNat_inj.1 (show (vl[k]).toNat = 0 by omega))
            have hno2 := Lib.hid (show (0 : UInt8) ∉ vl.take (k + 1) by
              rw [List.take_succ_eq_append_getElem hlt, List.mem_append, not_or]
              exact ⟨hno'.out, by simpa using fun e => hz e.symm⟩)
            clear hz
            go_wp2_with fail
            exact ⟨⟨k + 1, by go_num, by omega, hno2.out, trivial⟩, by simp [intOf]; omega⟩
        · obtain rfl : k = vl.length := by omega
          have hres := Lib.hid (hasNought_no (l := vl) (by have := hno'.out; rwa [List.take_length] at this))
          go_wp2_with ((go_at_call 54; (with_reducible refine Calls.mono (hrt.out _ hb3'.out) ?_); rintro e w4 ⟨rfl, hb4, hb5⟩; have y0 := (kR2.out.below hb4 kR2.out.lt).cell 0; have hb5' := Lib.hid hb5; clear hb4 hb5))
          go_ret
          exact ⟨by rw [hcf'.out, hres.out]; rfl, hb5'.out⟩
    · rw [if_neg k5] at hcf
      by_cases k6 : ki = 6
      · subst k6
        rw [if_pos rfl] at hcf
        rw [if_pos ⟨rfl, rfl⟩] at hrf
        rw [hcf]
        have hrt := Lib.hid (fun W hb => retry_at 6 nm vl w W hb hwf h1 h2 _ _ hrf)
        clear hrf hcf
        generalize (numR 10 vl).1 = n at hrt
        generalize digitsOk vl = b at hrt ⊢
        go_enter Tryz.func52, Tryz.ntmps52
        go_wp2_with (first
          | (go_at_call 70; (with_reducible refine Calls.mono hc'.out ?_); rintro e w2 ⟨rfl, hb2, hb3⟩; have x0 := (kR.out.below hb2 kR.out.lt).cell 0; have x1 := (kR.out.below hb2 kR.out.lt).cell 1; have x2 := (kR.out.below hb2 kR.out.lt).cell 2; have kR2 := Lib.hid (kR.out.below hb2 kR.out.lt); have hb3' := Lib.hid hb3; clear hb2 hb3)
          | (go_at_call 54; (with_reducible refine Calls.mono (hrt.out _ hb3'.out) ?_); rintro e w4 ⟨rfl, hb4, hb5⟩; have y0 := (kR2.out.below hb4 kR2.out.lt).cell 0; have hb5' := Lib.hid hb5; clear hb4 hb5))
        go_ret
        exact ⟨rfl, hb5'.out⟩
      · rw [if_neg k6] at hcf
        rw [if_neg (fun e => k6 e.2)] at hrf
        rw [hcf]
        have hrt := Lib.hid (fun W hb => retry_at ki nm vl w W hb hwf h1 h2 _ _ hrf)
        clear hrf hcf
        go_enter Tryz.func52, Tryz.ntmps52
        go_wp2_with (first
          | (go_at_call 70; (with_reducible refine Calls.mono hc'.out ?_); rintro e w2 ⟨rfl, hb2, hb3⟩; have x0 := (kR.out.below hb2 kR.out.lt).cell 0; have x1 := (kR.out.below hb2 kR.out.lt).cell 1; have x2 := (kR.out.below hb2 kR.out.lt).cell 2; have kR2 := Lib.hid (kR.out.below hb2 kR.out.lt); have hb3' := Lib.hid hb3; clear hb2 hb3)
          | (go_at_call 54; (with_reducible refine Calls.mono (hrt.out _ hb3'.out) ?_); rintro e w4 ⟨rfl, hb4, hb5⟩; have y0 := (kR2.out.below hb4 kR2.out.lt).cell 0; have hb5' := Lib.hid hb5; clear hb4 hb5))
        go_ret
        exact ⟨rfl, hb5'.out⟩
end Go.Proofs.YtlcfpnegpihicaaGreatDoor

namespace Go.Proofs.YtlcfpnegpihicaaGreatDoor
open Go.RowKit Go.Shelf

/-! ## The document's parser: an event ends, a line, as the mathematics say it -/
def sdO (x : Option Sd) : Sd := x.getD (0, ([], [], []), 0)
/-- What a walk of it asks. -/
structure RfOk (m : Nat) (r : RfS) : Prop where
  i : r.id.length ≤ 1000000
  t : r.type.length ≤ 300000
  d : r.data.length ≤ 300000
  s : r.some = true → r.long = false → r.data ≠ []
theorem refEndsP_any (A : Option Addr) (n c l m : Nat) (line : List UInt8) (any half : Bool) (r : RfS) (w : World) (hr : RfOk m r) (hm : m ≤ 65536) :
    Calls Tryz.prog 53 #[.agg (rpC A n c l m line any half r)] w fun e w' => e = .returned (.tuple #[.agg (rpC A n c l m line any half (rfEnds m r).1), .agg (sdC (sdO (rfEnds m r).2)), .bool (rfEnds m r).2.isSome]) ∧ Below w.heap.size w w' := by
  obtain ⟨id, ty, da, so, lo⟩ := r
  obtain ⟨hi, ht, hd, hs⟩ := hr
  simp only at hi ht hd hs
  have zi := size_mk id
  have zt := size_mk ty
  have zd := size_mk da
  have bi : (⟨id.toArray⟩ : ByteArray).size ≤ 1000000 := by omega
  have bt : (⟨ty.toArray⟩ : ByteArray).size ≤ 1000000 := by omega
  have bd : (⟨da.toArray⟩ : ByteArray).size ≤ 1000000 := by omega
  cases lo with
  | true =>
    have he : rfEnds m ⟨id, ty, da, so, true⟩ = (rfNew id, some (3, ([], [], []), 0)) := by unfold rfEnds; rw [if_pos (.inl rfl)]
    rw [he]
    cases so with
    | true => exact ends_long A n c l m ⟨line.toArray⟩ ⟨id.toArray⟩ ⟨ty.toArray⟩ ⟨da.toArray⟩ any half w bi bt bd hm
    | false => exact ends_long2 A n c l m ⟨line.toArray⟩ ⟨id.toArray⟩ ⟨ty.toArray⟩ ⟨da.toArray⟩ any half w bi bt bd hm
  | false =>
    cases so with
    | true =>
      obtain ⟨k, hk⟩ : ∃ k, da.length = k + 1 := ⟨da.length - 1, by have := List.length_pos_iff.2 (hs rfl rfl); omega⟩
      have hev : rfEv ⟨id, ty, da, true, false⟩ = (id, ty, da.take k) := by unfold rfEv; rw [if_pos ⟨rfl, rfl⟩]; simp only; rw [hk]; rfl
      have hsum : sumE (id, ty, da.take k) = id.length + ty.length + k := by unfold sumE; simp only [List.length_take]; omega
      have hx : (⟨da.toArray⟩ : ByteArray).extract 0 k = ⟨(da.take k).toArray⟩ := extract_take _ _
      by_cases hle : m < id.length + ty.length + k
      · have he : rfEnds m ⟨id, ty, da, true, false⟩ = (rfNew id, some (3, ([], [], []), 0)) := by unfold rfEnds; rw [hev, hsum, if_pos (.inr hle)]
        rw [he]
        exact ends_more A n c l m k ⟨line.toArray⟩ ⟨id.toArray⟩ ⟨ty.toArray⟩ ⟨da.toArray⟩ any half w bi bt bd hm (by omega) (by omega)
      · have he : rfEnds m ⟨id, ty, da, true, false⟩ = (rfNew id, some (1, (id, ty, da.take k), 0)) := by unfold rfEnds; rw [hev, hsum, if_neg (fun e => e.elim (fun e => by cases e) hle), if_pos rfl]
        rw [he]
        have h := ends_event A n c l m k ⟨line.toArray⟩ ⟨id.toArray⟩ ⟨ty.toArray⟩ ⟨da.toArray⟩ any half w bi bt bd hm (by omega) (by omega)
        rw [hx] at h
        exact h
    | false =>
      have hev : rfEv ⟨id, ty, da, false, false⟩ = (id, ty, []) := by unfold rfEv; rw [if_neg (fun e => by cases e.1)]
      have hsum : sumE (id, ty, []) = id.length + ty.length := rfl
      by_cases hle : m < id.length + ty.length
      · have he : rfEnds m ⟨id, ty, da, false, false⟩ = (rfNew id, some (3, ([], [], []), 0)) := by unfold rfEnds; rw [hev, hsum, if_pos (.inr hle)]
        rw [he]
        exact ends_much A n c l m ⟨line.toArray⟩ ⟨id.toArray⟩ ⟨ty.toArray⟩ ⟨da.toArray⟩ any half w bi bt bd hm (by omega)
      · have he : rfEnds m ⟨id, ty, da, false, false⟩ = (rfNew id, none) := by unfold rfEnds; rw [hev, hsum, if_neg (fun e => e.elim (fun e => by cases e) hle), if_neg (fun e => by cases e)]
        rw [he]
        exact ends_none A n c l m ⟨line.toArray⟩ ⟨id.toArray⟩ ⟨ty.toArray⟩ ⟨da.toArray⟩ any half w bi bt bd hm (by omega)
theorem refLineP_any (A : Option Addr) (n c l m : Nat) (line : List UInt8) (any half : Bool) (r : RfS) (x : List UInt8 × Bool) (w : World) (hr : RfOk m r) (hm : m ≤ 65536) (hx : x.1.length ≤ 65536) :
    Calls Tryz.prog 33 #[.agg (rpC A n c l m line any half r), .agg #[.string ⟨x.1.toArray⟩, .bool x.2]] w fun e w' => e = .returned (.tuple #[.agg (rpC A n c l m line any half (rfLine m r x).1), .agg (sdC (sdO (rfLine m r x).2)), .bool (rfLine m r x).2.isSome]) ∧ Below w.heap.size w w' := by
  have hen := fun W => refEndsP_any A n c l m line any half r W hr hm
  obtain ⟨id, ty, da, so, lo⟩ := r
  obtain ⟨tx, tl⟩ := x
  obtain ⟨hi, ht, hd, hs⟩ := hr
  simp only at hi ht hd hs hx hen ⊢
  have zi := size_mk id
  have zt := size_mk ty
  have zd := size_mk da
  have bi : (⟨id.toArray⟩ : ByteArray).size ≤ 1000000 := by omega
  have bt : (⟨ty.toArray⟩ : ByteArray).size ≤ 1000000 := by omega
  have bd : (⟨da.toArray⟩ : ByteArray).size ≤ 1000000 := by omega
  cases tl with
  | true =>
    have he : rfLine m ⟨id, ty, da, so, lo⟩ (tx, true) = (⟨id, ty, da, so, true⟩, none) := by unfold rfLine; rw [if_pos rfl]
    rw [he]
    exact line_long A n c l m ⟨line.toArray⟩ ⟨id.toArray⟩ ⟨ty.toArray⟩ ⟨da.toArray⟩ ⟨tx.toArray⟩ any half so lo w bi bt bd hm
  | false =>
    have hfl := fieldF_len tx
    have hwf := fieldF_wf tx
    have hof := fun W => refOfF_any tx W (by omega)
    have hco := fun W => refCountsF_any (fieldF tx) W hwf (by omega) (by omega)
    have hre := fun W => refRetryF_any (fieldF tx) W hwf (by omega) (by omega)
    have hl0 : rfLine m ⟨id, ty, da, so, lo⟩ (tx, false) = if countsF (fieldF tx) = false then ((⟨id, ty, da, so, lo⟩ : RfS), none)
      else if (fieldF tx).1 = 1 then rfEnds m ⟨id, ty, da, so, lo⟩
      else if (fieldF tx).1 = 3 then (if lo = true ∨ m + 1 < da.length then (⟨id, ty, da, true, true⟩ : RfS) else ⟨id, ty, da ++ (fieldF tx).2.2 ++ [10], true, lo⟩, none)
      else if (fieldF tx).1 = 4 then (⟨id, (fieldF tx).2.2, da, so, lo⟩, none)
      else if (fieldF tx).1 = 5 then (⟨(fieldF tx).2.2, ty, da, so, lo⟩, none)
      else if (fieldF tx).1 = 6 then (⟨id, ty, da, so, lo⟩, .some (2, ([], [], []), (retryF (fieldF tx)).1))
      else (⟨id, ty, da, so, lo⟩, none) := by unfold rfLine; rw [if_neg (fun e => by cases e)]
    rw [hl0]
    clear hl0 hwf
    generalize fieldF tx = ff at hfl hof hco hre ⊢
    obtain ⟨fk, fn, fv⟩ := ff
    unfold fieldV at hco hre
    unfold Retr at hre
    simp only at hfl hof hco hre ⊢
    have zv := size_mk fv
    have bv : (⟨fv.toArray⟩ : ByteArray).size ≤ 1000000 := by omega
    generalize retryF (fk, fn, fv) = rt at hre ⊢
    cases hc : countsF (fk, fn, fv) with
    | false =>
      rw [if_pos rfl]
      rw [hc] at hco
      exact line_not A n c l m ⟨line.toArray⟩ ⟨id.toArray⟩ ⟨ty.toArray⟩ ⟨da.toArray⟩ ⟨tx.toArray⟩ any half so lo w bi bt bd hm fk ⟨fn.toArray⟩ ⟨fv.toArray⟩ bv hof hco
    | true =>
      rw [if_neg (fun e => by cases e)]
      rw [hc] at hco
      by_cases h1 : fk = 1
      · subst h1
        rw [if_pos rfl]
        have hnew : (rfEnds m ⟨id, ty, da, so, lo⟩).1 = rfNew id := rfl
        rw [hnew] at hen ⊢
        exact line_end A n c l m ⟨line.toArray⟩ ⟨id.toArray⟩ ⟨ty.toArray⟩ ⟨da.toArray⟩ ⟨tx.toArray⟩ any half so lo w bi bt bd hm ⟨fn.toArray⟩ ⟨fv.toArray⟩ bv hof hco _ _ _ _ _ _ hen
      · rw [if_neg h1]
        by_cases h3 : fk = 3
        · subst h3
          rw [if_pos rfl]
          cases lo with
          | true =>
            rw [if_pos (.inl rfl)]
            exact line_still A n c l m ⟨line.toArray⟩ ⟨id.toArray⟩ ⟨ty.toArray⟩ ⟨da.toArray⟩ ⟨tx.toArray⟩ any half so true w bi bt bd hm ⟨fn.toArray⟩ ⟨fv.toArray⟩ bv hof hco
          | false =>
            by_cases hle : m + 1 < da.length
            · rw [if_pos (.inr hle)]
              exact line_more A n c l m ⟨line.toArray⟩ ⟨id.toArray⟩ ⟨ty.toArray⟩ ⟨da.toArray⟩ ⟨tx.toArray⟩ any half so false w bi bt bd hm ⟨fn.toArray⟩ ⟨fv.toArray⟩ bv hof hco (by omega)
            · rw [if_neg (fun e => e.elim (fun e => by cases e) hle)]
              have h := line_data A n c l m ⟨line.toArray⟩ ⟨id.toArray⟩ ⟨ty.toArray⟩ ⟨da.toArray⟩ ⟨tx.toArray⟩ any half so false w bi bt bd hm ⟨fn.toArray⟩ ⟨fv.toArray⟩ bv hof hco (by omega)
              rw [cat_mk, cat_mk] at h
              exact h
        · rw [if_neg h3]
          by_cases h4 : fk = 4
          · subst h4
            rw [if_pos rfl]
            exact line_type A n c l m ⟨line.toArray⟩ ⟨id.toArray⟩ ⟨ty.toArray⟩ ⟨da.toArray⟩ ⟨tx.toArray⟩ any half so lo w bi bt bd hm ⟨fn.toArray⟩ ⟨fv.toArray⟩ bv hof hco
          · rw [if_neg h4]
            by_cases h5 : fk = 5
            · subst h5
              rw [if_pos rfl]
              exact line_id A n c l m ⟨line.toArray⟩ ⟨id.toArray⟩ ⟨ty.toArray⟩ ⟨da.toArray⟩ ⟨tx.toArray⟩ any half so lo w bi bt bd hm ⟨fn.toArray⟩ ⟨fv.toArray⟩ bv hof hco
            · rw [if_neg h5]
              by_cases h6 : fk = 6
              · subst h6
                rw [if_pos rfl]
                exact line_retry A n c l m ⟨line.toArray⟩ ⟨id.toArray⟩ ⟨ty.toArray⟩ ⟨da.toArray⟩ ⟨tx.toArray⟩ any half so lo w bi bt bd hm ⟨fn.toArray⟩ ⟨fv.toArray⟩ bv hof hco _ _ hre
              · rw [if_neg h6]
                exact line_other A n c l m ⟨line.toArray⟩ ⟨id.toArray⟩ ⟨ty.toArray⟩ ⟨da.toArray⟩ ⟨tx.toArray⟩ any half so lo w bi bt bd hm fk ⟨fn.toArray⟩ ⟨fv.toArray⟩ bv hof hco h1 h3 h4 h5 h6
end Go.Proofs.YtlcfpnegpihicaaGreatDoor

namespace Go.Proofs.YtlcfpnegpihicaaGreatDoor
open Go.RowKit Go.Shelf
attribute [local go_sem] Oper.semAt_some

/-! ## The document's parser: Write -/
def RefWP (l m : Nat) (q : RSt) (r : RfS) (x : List UInt8) (w : World) (e : Ending) (w' : World) : Prop :=
  ∃ A c v, e = .returned (.tuple #[.agg (rpC A (stepR l q x).2.ws.length c l m (stepR l q x).2.line (stepR l q x).2.any (stepR l q x).2.half (rfLines m r (stepR l q x).1).1), v]) ∧
    Rd w' (fun b => w.heap.size ≤ b ∧ b < w'.heap.size) A (stepR l q x).2.ws ∧ Sds w' w.heap.size v (rfLines m r (stepR l q x).1).2 ∧ Below w.heap.size w w'
theorem rfLines_take {m : Nat} {r : RfS} {ls : List (List UInt8 × Bool)} {i : Nat} (hi : i < ls.length) : rfLines m r (ls.take (i + 1)) = ((rfLine m (rfLines m r (ls.take i)).1 ls[i]).1, (rfLines m r (ls.take i)).2 ++ (rfLine m (rfLines m r (ls.take i)).1 ls[i]).2.toList) := by
  rw [List.take_succ_eq_append_getElem hi, rfLines_append]
  simp [rfLines]
theorem rfLines_count (m : Nat) : ∀ (ls : List (List UInt8 × Bool)) (r : RfS), (rfLines m r ls).2.length ≤ ls.length
  | [], _ => Nat.le_refl _
  | x :: t, r => by
    have h := rfLines_count m t (rfLine m r x).1
    have h2 : (rfLine m r x).2.toList.length ≤ 1 := by cases (rfLine m r x).2 <;> simp
    simp only [rfLines, List.length_append, List.length_cons]
    omega
/-- Behind the first lines both stand alike: what a walk asks holds. -/
theorem rel_ok {l m : Nat} {s : PrS} {r : RfS} (hr : RelP s r) (ho : s.ok m l) (hll : s.last.length ≤ 1000000) (hl : l ≤ 65536) (hm : m ≤ 65536) : RfOk m r := by
  refine ⟨by rw [hr.id]; exact hll, by rw [hr.type]; have := ho.k3; omega, by rw [hr.data]; have := ho.d2; omega, fun h1 h2 => ?_⟩
  rw [hr.data]
  exact (hr.some (by rw [← hr.long]; exact h2)).1 h1
theorem rel_take {l m : Nat} {s : PrS} {r : RfS} {ls : List (List UInt8 × Bool)} (hr : RelP s r) (ho : s.ok m l) (hll : s.last.length ≤ 1000000) (hl : l ≤ 65536) (hm : m ≤ 65536) (hls : ∀ y ∈ ls, LineOk l y) (i : Nat) : RfOk m (rfLines m r (ls.take i)).1 := by
  have hsub : ∀ y ∈ ls.take i, LineOk l y := fun y hy => hls y (List.mem_of_mem_take hy)
  have hf : ∀ f ∈ fieldsL (ls.take i), FldOk l f := fun f hf => by
    obtain ⟨y, hy, hyf⟩ := List.mem_filterMap.1 hf
    exact said_ok (hsub y hy) hyf
  exact rel_ok (rel_lines (ls.take i) s r hr ho hsub).1 (stepsP_ok _ s ho hf) (stepsP_last hl _ s hll hf) hl hm
abbrev S11 (W : World) (k : Nat) (v0 v1 v2 v3 v4 v5 v6 v7 v8 v9 v10 : Value) : World := (((((((((((W.setCell ⟨k, 0, none⟩ v0).setCell ⟨k, 1, none⟩ v1).setCell ⟨k, 2, none⟩ v2).setCell ⟨k, 3, none⟩ v3).setCell ⟨k, 4, none⟩ v4).setCell ⟨k, 5, none⟩ v5).setCell ⟨k, 6, none⟩ v6).setCell ⟨k, 7, none⟩ v7).setCell ⟨k, 8, none⟩ v8).setCell ⟨k, 9, none⟩ v9).setCell ⟨k, 10, none⟩ v10)
abbrev SS5 (W : World) (k : Nat) (v0 v1 v2 v3 v4 : Value) : World := (((((W.setCell ⟨k, 0, none⟩ v0).setCell ⟨k, 1, none⟩ v1).setCell ⟨k, 2, none⟩ v2).setCell ⟨k, 3, none⟩ v3).setCell ⟨k, 4, none⟩ v4)
theorem chg_set11 (W : World) (k : Nat) (v0 v1 v2 v3 v4 v5 v6 v7 v8 v9 v10 : Value) : Chg (· = k) W (S11 W k v0 v1 v2 v3 v4 v5 v6 v7 v8 v9 v10) := ((((((((((((Chg.refl (· = k) W).set (k := k) rfl 0 v0).set (k := k) rfl 1 v1).set (k := k) rfl 2 v2).set (k := k) rfl 3 v3).set (k := k) rfl 4 v4).set (k := k) rfl 5 v5).set (k := k) rfl 6 v6).set (k := k) rfl 7 v7).set (k := k) rfl 8 v8).set (k := k) rfl 9 v9).set (k := k) rfl 10 v10)
theorem chg_setS (W : World) (k : Nat) (v0 v1 v2 v3 v4 : Value) : Chg (· = k) W (SS5 W k v0 v1 v2 v3 v4) := ((((((Chg.refl (· = k) W).set (k := k) rfl 0 v0).set (k := k) rfl 1 v1).set (k := k) rfl 2 v2).set (k := k) rfl 3 v3).set (k := k) rfl 4 v4)
theorem has_set11 {W : World} {k : Nat} {t : TypeId} {u0 u1 u2 u3 u4 u5 u6 u7 u8 u9 u10 : Value} (h : Has W k t #[u0, u1, u2, u3, u4, u5, u6, u7, u8, u9, u10]) (v0 v1 v2 v3 v4 v5 v6 v7 v8 v9 v10 : Value) : Has (S11 W k v0 v1 v2 v3 v4 v5 v6 v7 v8 v9 v10) k t #[v0, v1, v2, v3, v4, v5, v6, v7, v8, v9, v10] := by
  simpa using (((((((((((h.put 0 v0).put 1 v1).put 2 v2).put 3 v3).put 4 v4).put 5 v5).put 6 v6).put 7 v7).put 8 v8).put 9 v9).put 10 v10)
theorem has_setS {W : World} {k : Nat} {t : TypeId} {u0 u1 u2 u3 u4 : Value} (h : Has W k t #[u0, u1, u2, u3, u4]) (v0 v1 v2 v3 v4 : Value) : Has (SS5 W k v0 v1 v2 v3 v4) k t #[v0, v1, v2, v3, v4] := by
  simpa using (((((h.put 0 v0).put 1 v1).put 2 v2).put 3 v3).put 4 v4)
/-- How it stands in a round. -/
def RwP (w6 : World) (P n1 l m : Nat) (A : Option Addr) (n c : Nat) (line : List UInt8) (any half : Bool) (rs : RfS × List Sd) (v : Value) (W : World) : Prop :=
  Sds W n1 v rs.2 ∧ Has W P 51 (rpC A n c l m line any half rs.1) ∧ Chg (· = P) w6 W
set_option maxRecDepth 100000 in
set_option maxHeartbeats 4000000 in
theorem refWritePs_any (A B : Option Addr) (n1 c1 n2 c2 l m : Nat) (q : RSt) (r : RfS) (s : PrS) (x : List UInt8) (w : World) (hA : Rd w (· < w.heap.size) A q.ws) (hB : Rd w (· < w.heap.size) B x) (hn1 : n1 = q.ws.length) (hn2 : n2 = x.length) (hl1 : n1 ≤ 1000) (hl2 : n2 ≤ 1000) (hl : l ≤ 65536) (hm : m ≤ 65536) (hll : q.line.length ≤ l + 4) (hok : (absC l q).ok l) (hr : RelP s r) (hs : s.ok m l) (hsl : s.last.length ≤ 1000000) :
    Calls Tryz.prog 16 #[.agg (rpC A n1 c1 l m q.line q.any q.half r), .slice B n2 c2] w (RefWP l m q r x w) := by
  obtain ⟨rn, hrn⟩ : ∃ rn, stepR l q x = rn := ⟨_, rfl⟩
  have hSC := stepR_stepC l q x
  have hLok : ∀ y ∈ rn.1, LineOk l y := fun y hy => by
    obtain ⟨h1, h2, h3, _⟩ := stepC_good hok x y (by rw [hSC, hrn]; exact hy)
    exact ⟨h1, h2, h3⟩
  have hrcnt : rn.1.length ≤ 6000 := by
    have h3 := stepC_count (most := l) (absC l q) x
    rw [hSC, hrn] at h3
    have h4 : (absC l q).ws = q.ws := rfl
    rw [h4] at h3
    simp only at h3
    omega
  have hcntS := fun i => rfLines_count m (rn.1.take i) r
  have hRf := fun i => rel_take hr hs hsl hl hm hLok i
  have hW := fun (W : World) (hb : Below w.heap.size w W) => refWriteL_any A B n1 c1 n2 c2 l q x W ((hA.kept (Kept.below hb (fun _ h => h))).mono (fun b h => Nat.lt_of_lt_of_le h hb.size)) ((hB.kept (Kept.below hb (fun _ h => h))).mono (fun b h => Nat.lt_of_lt_of_le h hb.size)) hn1 hn2 hl1 hl2 hl hll
  unfold RefWL at hW
  unfold RefWP
  rw [hrn] at hW ⊢
  obtain ⟨rl, qn⟩ := rn
  simp only at hLok hrcnt hcntS hRf hW ⊢
  obtain ⟨N, hN⟩ : ∃ N, rl.length = N := ⟨_, rfl⟩
  obtain ⟨ql, hql⟩ : ∃ ql, qn.ws.length = ql := ⟨_, rfl⟩
  have hB1 : Below w.heap.size w ((w.alloc (.cells (rpC A n1 c1 l m q.line q.any q.half r) 51)).alloc (.cells #[.slice none 0 0, .int .i64 0, .string ⟨#[]⟩, .bool false, .bool false, .int .i64 0, .string ⟨#[]⟩, .string ⟨#[]⟩, .string ⟨#[]⟩, .bool false, .bool false] 51)) := ((Below.refl _ _).alloc (Nat.le_refl _) _).alloc (by simp) _
  have kP := (Has.new w 51 (rpC A n1 c1 l m q.line q.any q.half r)).alloc (.cells #[.slice none 0 0, .int .i64 0, .string ⟨#[]⟩, .bool false, .bool false, .int .i64 0, .string ⟨#[]⟩, .string ⟨#[]⟩, .string ⟨#[]⟩, .bool false, .bool false] 51)
  have kR := Has.new (w.alloc (.cells (rpC A n1 c1 l m q.line q.any q.half r) 51)) 51 #[.slice none 0 0, .int .i64 0, .string ⟨#[]⟩, .bool false, .bool false, .int .i64 0, .string ⟨#[]⟩, .string ⟨#[]⟩, .string ⟨#[]⟩, .bool false, .bool false]
  simp only [World.size_alloc] at kR
  unfold rpC at kP kR hB1 ⊢
  obtain ⟨w2, hw2⟩ : ∃ w2, (w.alloc (.cells #[.slice A n1 c1, .int .i64 (l : Int), .string ⟨q.line.toArray⟩, .bool q.any, .bool q.half, .int .i64 (m : Int), .string ⟨r.id.toArray⟩, .string ⟨r.type.toArray⟩, .string ⟨r.data.toArray⟩, .bool r.some, .bool r.long] 51)).alloc (.cells #[.slice none 0 0, .int .i64 0, .string ⟨#[]⟩, .bool false, .bool false, .int .i64 0, .string ⟨#[]⟩, .string ⟨#[]⟩, .string ⟨#[]⟩, .bool false, .bool false] 51) = w2 := ⟨_, rfl⟩
  have hz2 : w2.heap.size = w.heap.size + 1 + 1 := by rw [← hw2]; simp
  rw [hw2] at kP kR hB1
  have e0 := kP.cell 0
  have e1 := kP.cell 1
  have e2 := kP.cell 2
  have e3 := kP.cell 3
  have e4 := kP.cell 4
  have hWx := Lib.hid (hW _ hB1)
  have hw2' := Lib.hid hw2
  have hz2' := Lib.hid hz2
  have kP' := Lib.hid kP
  have kR' := Lib.hid kR
  have hB1' := Lib.hid hB1
  have hN' := Lib.hid hN
  have hql' := Lib.hid hql
  have hLok' := Lib.hid hLok
  have hcntS' := Lib.hid hcntS
  have hRf' := Lib.hid hRf
  rw [hql] at hWx
  clear hA hB hn1 hn2 hl1 hl2 hll hok hs hsl hSC hrn hW kP kR hB1 hw2 hz2 hql hLok hcntS hRf hr
  go_enter Tryz.func16, Tryz.ntmps16
  go_upto_region 1 with (fail)
  rw [hw2'.out]
  go_upto_region 2 with (go_at_call 32; (with_reducible refine Calls.mono hWx.out ?_); rintro e w3 ⟨A3, c3, v3, rfl, hr3, hL3, hb3⟩; obtain ⟨A5, c5, rfl, hat3⟩ := hL3.at; rw [hN'.out]; have hr3' := Lib.hid hr3; have hat3' := Lib.hid hat3; have hb3' := Lib.hid hb3; clear hr3 hL3 hat3 hb3)
  have z3 := hb3'.out.size
  have hz2 := hz2'.out
  have hbQ : Below w3.heap.size w3 (w3.alloc (.cells #[.slice A3 ql c3, .int .i64 (l : Int), .string ⟨qn.line.toArray⟩, .bool qn.any, .bool qn.half] 49)) := (Below.refl _ _).alloc (Nat.le_refl _) _
  have hb4 := hb3'.out.trans (hbQ.mono z3)
  have kP4 := kP'.out.below hb4 kP'.out.lt
  have kR4 := kR'.out.below hb4 kR'.out.lt
  have kQ4 := Has.new w3 49 #[.slice A3 ql c3, .int .i64 (l : Int), .string ⟨qn.line.toArray⟩, .bool qn.any, .bool qn.half]
  have hB4 : Below w.heap.size w _ := hB1'.out.trans (hb4.mono (by omega))
  have hat4 := hat3'.out.below hbQ
  have hr4 := hr3'.out.kept (Kept.below hbQ (fun b hb => hb.2))
  obtain ⟨Q, hQ⟩ : ∃ Q, w3.heap.size = Q := ⟨_, rfl⟩
  obtain ⟨w4, hw4⟩ : ∃ w4, w3.alloc (.cells #[.slice A3 ql c3, .int .i64 (l : Int), .string ⟨qn.line.toArray⟩, .bool qn.any, .bool qn.half] 49) = w4 := ⟨_, rfl⟩
  have hz4 : w4.heap.size = Q + 1 := by rw [← hw4]; simp [hQ]
  rw [hw4] at kP4 kR4 kQ4 hB4 hat4 hr4 ⊢
  rw [hQ] at kQ4 hr4 ⊢
  have hPQ : w.heap.size + 1 < Q := by omega
  have p0 := kP4.cell 0
  have p1 := kP4.cell 1
  have p2 := kP4.cell 2
  have p3 := kP4.cell 3
  have p4 := kP4.cell 4
  have f0 := kP4.free 0
  have f1 := kP4.free 1
  have f2 := kP4.free 2
  have f3 := kP4.free 3
  have f4 := kP4.free 4
  have g0 := kQ4.cell 0
  have g1 := kQ4.cell 1
  have g2 := kQ4.cell 2
  have g3 := kQ4.cell 3
  have g4 := kQ4.cell 4
  have kP5 := ((((kP4.put 0 (.slice A3 ql c3)).put 1 (.int .i64 (l : Int))).put 2 (.string ⟨qn.line.toArray⟩)).put 3 (.bool qn.any)).put 4 (.bool qn.half)
  have hC5 := (((((Chg.refl (· = w.heap.size) w4).set (k := w.heap.size) rfl 0 (.slice A3 ql c3)).set (k := w.heap.size) rfl 1 (.int .i64 (l : Int))).set (k := w.heap.size) rfl 2 (.string ⟨qn.line.toArray⟩)).set (k := w.heap.size) rfl 3 (.bool qn.any)).set (k := w.heap.size) rfl 4 (.bool qn.half)
  obtain ⟨w5, hw5⟩ : ∃ w5, ((((w4.setCell ⟨w.heap.size, 0, none⟩ (.slice A3 ql c3)).setCell ⟨w.heap.size, 1, none⟩ (.int .i64 (l : Int))).setCell ⟨w.heap.size, 2, none⟩ (.string ⟨qn.line.toArray⟩)).setCell ⟨w.heap.size, 3, none⟩ (.bool qn.any)).setCell ⟨w.heap.size, 4, none⟩ (.bool qn.half) = w5 := ⟨_, rfl⟩
  rw [hw5] at kP5 hC5
  have kP5 : Has w5 w.heap.size 51 (rpC A3 ql c3 l m qn.line qn.any qn.half r) := by simpa [rpC] using kP5
  have hz5 : w5.heap.size = w4.heap.size := by rw [← hw5]; simp
  have kR5 := hC5.has (show ¬ (w.heap.size + 1 = w.heap.size) by omega) kR4
  have hB5 := hB4.trans (hC5.below (B := w.heap.size) (fun k hk => Nat.le_of_eq hk.symm) (by omega))
  have hat5 : LnAt w5 A5 rl := fun i y hy => by
    obtain ⟨g, hg, ⟨cs, hh⟩, h1, h2⟩ := hat4 i y hy
    have hgn : ¬ (g = w.heap.size) := fun e => by have h9 := kP4; rw [← e] at h9; exact absurd (hh.apart h9 (by decide)) (by simp)
    have hk := hC5.block g hh.lt hgn
    exact ⟨g, hg, ⟨cs, hk.trans hh⟩, (World.cell?_of_block hk).trans h1, (World.cell?_of_block hk).trans h2⟩
  have hr5 : Rd w5 (fun b => w2.heap.size ≤ b ∧ b < Q) A3 qn.ws := hr4.kept (fun b hb => hC5.block b (by have := hb.2; omega) (fun e => by have e : b = w.heap.size := e; have := hb.1; omega))
  have hw5' := Lib.hid hw5
  have hatH := Lib.hid hat5
  have hrH := Lib.hid hr5
  have kPH := Lib.hid kP5
  have kRH := Lib.hid kR5
  have hBH := Lib.hid hB5
  clear hw5 hat5 hr5 kP5 kR5 hB5 hC5 kP4 kR4 kQ4 hB4 hat4 hr4 hw4 hb4 hbQ hr3' hat3' hb3' kP' kR' hB1'
  go_upto_region 4 with (fail)
  rw [hw5'.out]
  clear p0 p1 p2 p3 p4 f0 f1 f2 f3 f4 g0 g1 g2 g3 g4 e0 e1 e2 e3 e4 hw5'
  have hln := Lib.hid (fun (r' : RfS) (y : List UInt8 × Bool) (W : World) (h1 : RfOk m r') (h2 : y.1.length ≤ 65536) => refLineP_any A3 ql c3 l m qn.line qn.any qn.half r' y W h1 hm h2)
  go_wp2
  go_loopw [8, 9] (fun v8 v9 W => ∃ i : Nat, v9 = .int .i64 (i : Int) ∧ i ≤ N ∧ RwP w5 w.heap.size w5.heap.size l m A3 ql c3 qn.line qn.any qn.half (rfLines m r (rl.take i)) v8 W) (fun _ v9 _ => N - (intOf v9).toNat)
  case atStart => exact ⟨0, rfl, Nat.zero_le _, sds_nil _ _, kPH.out, Chg.refl _ _⟩
  case round =>
    obtain ⟨i, rfl, hi, hv, hM, hC⟩ := hrel
    have hzr := hC.size
    by_cases hlt : i < N
    · have hii : (i : Int) < (N : Int) := by omega
      have hil : i < rl.length := by have := hN'.out; omega
      obtain ⟨⟨yt, yb⟩, hy⟩ : ∃ y, rl[i]? = some y := ⟨rl[i], List.getElem?_eq_getElem hil⟩
      have hyx : rl[i] = (yt, yb) := by rw [List.getElem?_eq_getElem hil] at hy; exact Option.some.inj hy
      have hyl : yt.length ≤ 65536 := by have := (hLok'.out (yt, yb) (List.mem_of_getElem? hy)).len; simp only at this; omega
      obtain ⟨g, rfl, ⟨cs, hg⟩, g1, g2⟩ := hatH.out i (yt, yb) hy
      have hgP : ¬ (g = w.heap.size) := fun e => by have h9 := kPH.out; rw [← e] at h9; exact absurd (hg.apart h9 (by decide)) (by simp)
      have hgk := hC.block g hg.lt hgP
      have g1 := (World.cell?_of_block hgk).trans g1
      have g2 := (World.cell?_of_block hgk).trans g2
      have hgr : g < wr.heap.size := by have := hg.lt; omega
      have hn := rfLines_take (m := m) (r := r) hil
      rw [hyx] at hn
      have hri := hRf'.out i
      have hci := hcntS'.out i
      rw [List.length_take] at hci
      obtain ⟨⟨ri, so⟩, hrs⟩ : ∃ z, rfLines m r (rl.take i) = z := ⟨_, rfl⟩
      rw [hrs] at hn hv hM hri hci
      simp only at hn hv hM hri hci
      have hlnw := Lib.hid (fun W => hln.out ri (yt, yb) W hri hyl)
      obtain ⟨⟨rj, sj⟩, hrj⟩ : ∃ z, rfLine m ri (yt, yb) = z := ⟨_, rfl⟩
      rw [hrj] at hlnw hn
      simp only at hn hlnw
      unfold rpC at hlnw hM
      have hK : Hid (∀ W, Below wr.heap.size wr W → ((W.cell? ⟨w.heap.size, 0, none⟩ = some (.slice A3 ql c3) ∧ W.cell? ⟨w.heap.size, 1, none⟩ = some (.int .i64 (l : Int)) ∧ W.cell? ⟨w.heap.size, 2, none⟩ = some (.string ⟨qn.line.toArray⟩) ∧ W.cell? ⟨w.heap.size, 3, none⟩ = some (.bool qn.any) ∧ W.cell? ⟨w.heap.size, 4, none⟩ = some (.bool qn.half) ∧ W.cell? ⟨w.heap.size, 5, none⟩ = some (.int .i64 (m : Int)) ∧ W.cell? ⟨w.heap.size, 6, none⟩ = some (.string ⟨ri.id.toArray⟩) ∧ W.cell? ⟨w.heap.size, 7, none⟩ = some (.string ⟨ri.type.toArray⟩) ∧ W.cell? ⟨w.heap.size, 8, none⟩ = some (.string ⟨ri.data.toArray⟩) ∧ W.cell? ⟨w.heap.size, 9, none⟩ = some (.bool ri.some) ∧ W.cell? ⟨w.heap.size, 10, none⟩ = some (.bool ri.long)) ∧ W.cell? ⟨g, i * 2, none⟩ = some (.string ⟨yt.toArray⟩) ∧ W.cell? ⟨g, i * 2 + 1, none⟩ = some (.bool yb))) := Lib.hid (fun W hb => by
        have hk := hM.below hb hM.lt
        exact ⟨⟨hk.cell 0, hk.cell 1, hk.cell 2, hk.cell 3, hk.cell 4, hk.cell 5, hk.cell 6, hk.cell 7, hk.cell 8, hk.cell 9, hk.cell 10⟩, (hb.cell (p := ⟨g, i * 2, none⟩) hgr).trans g1, (hb.cell (p := ⟨g, i * 2 + 1, none⟩) hgr).trans g2⟩)
      have hvH := Lib.hid hv
      have hMH := Lib.hid hM
      have hCH := Lib.hid hC
      have hnH := Lib.hid hn
      have hgkH := Lib.hid hgk
      have hyH := Lib.hid hy
      have hyxH := Lib.hid hyx
      have hrsH := Lib.hid hrs
      clear hv hM hC hn hgk hy hyx hrs hri hrj hg g1 g2
      go_upto_region 7 with (fail)
      obtain ⟨sd, hsd⟩ : ∃ sd, sdO sj = sd := ⟨_, rfl⟩
      obtain ⟨sb, hsb⟩ : ∃ sb, sj.isSome = sb := ⟨_, rfl⟩
      rw [hsd, hsb] at hlnw
      unfold sdC at hlnw
      have hbd := Lib.hid ((Below.refl wr.heap.size wr).drew)
      have hbP := Lib.hid (((Below.refl wr.heap.size wr).alloc (Nat.le_refl _) (.cells #[.slice none 0 0, .int .i64 0, .string ⟨#[]⟩, .bool false, .bool false, .int .i64 0, .string ⟨#[]⟩, .string ⟨#[]⟩, .string ⟨#[]⟩, .bool false, .bool false] 51)).drew)
      have hbS := Lib.hid (((Below.refl wr.heap.size wr).alloc (Nat.le_refl _) (.cells #[.int .i64 0, .string ⟨#[]⟩, .string ⟨#[]⟩, .string ⟨#[]⟩, .int .u64 0] 40)).drew)
      have hbPS := Lib.hid ((((Below.refl wr.heap.size wr).alloc (Nat.le_refl _) (.cells #[.slice none 0 0, .int .i64 0, .string ⟨#[]⟩, .bool false, .bool false, .int .i64 0, .string ⟨#[]⟩, .string ⟨#[]⟩, .string ⟨#[]⟩, .bool false, .bool false] 51)).alloc (by simp) (.cells #[.int .i64 0, .string ⟨#[]⟩, .string ⟨#[]⟩, .string ⟨#[]⟩, .int .u64 0] 40)).drew)
      have hbSP := Lib.hid ((((Below.refl wr.heap.size wr).alloc (Nat.le_refl _) (.cells #[.int .i64 0, .string ⟨#[]⟩, .string ⟨#[]⟩, .string ⟨#[]⟩, .int .u64 0] 40)).alloc (by simp) (.cells #[.slice none 0 0, .int .i64 0, .string ⟨#[]⟩, .bool false, .bool false, .int .i64 0, .string ⟨#[]⟩, .string ⟨#[]⟩, .string ⟨#[]⟩, .bool false, .bool false] 51)).drew)
      have khbPP := Lib.hid ((Has.new wr 51 #[.slice none 0 0, .int .i64 0, .string ⟨#[]⟩, .bool false, .bool false, .int .i64 0, .string ⟨#[]⟩, .string ⟨#[]⟩, .string ⟨#[]⟩, .bool false, .bool false]).drew)
      have khbSS := Lib.hid ((Has.new wr 40 #[.int .i64 0, .string ⟨#[]⟩, .string ⟨#[]⟩, .string ⟨#[]⟩, .int .u64 0]).drew)
      have khbPSP := Lib.hid (((Has.new wr 51 #[.slice none 0 0, .int .i64 0, .string ⟨#[]⟩, .bool false, .bool false, .int .i64 0, .string ⟨#[]⟩, .string ⟨#[]⟩, .string ⟨#[]⟩, .bool false, .bool false]).alloc (.cells #[.int .i64 0, .string ⟨#[]⟩, .string ⟨#[]⟩, .string ⟨#[]⟩, .int .u64 0] 40)).drew)
      have khbPSS := Lib.hid ((Has.new (wr.alloc (.cells #[.slice none 0 0, .int .i64 0, .string ⟨#[]⟩, .bool false, .bool false, .int .i64 0, .string ⟨#[]⟩, .string ⟨#[]⟩, .string ⟨#[]⟩, .bool false, .bool false] 51)) 40 #[.int .i64 0, .string ⟨#[]⟩, .string ⟨#[]⟩, .string ⟨#[]⟩, .int .u64 0]).drew)
      simp only [World.size_alloc] at khbPSS
      have khbSPS := Lib.hid (((Has.new wr 40 #[.int .i64 0, .string ⟨#[]⟩, .string ⟨#[]⟩, .string ⟨#[]⟩, .int .u64 0]).alloc (.cells #[.slice none 0 0, .int .i64 0, .string ⟨#[]⟩, .bool false, .bool false, .int .i64 0, .string ⟨#[]⟩, .string ⟨#[]⟩, .string ⟨#[]⟩, .bool false, .bool false] 51)).drew)
      have khbSPP := Lib.hid ((Has.new (wr.alloc (.cells #[.int .i64 0, .string ⟨#[]⟩, .string ⟨#[]⟩, .string ⟨#[]⟩, .int .u64 0] 40)) 51 #[.slice none 0 0, .int .i64 0, .string ⟨#[]⟩, .bool false, .bool false, .int .i64 0, .string ⟨#[]⟩, .string ⟨#[]⟩, .string ⟨#[]⟩, .bool false, .bool false]).drew)
      simp only [World.size_alloc] at khbSPP
      go_cut [10, 11, 12] from 22 to 43 (fun s10 s11 s12 wx => ∃ (a b : Nat), s10 = .pointer (some ⟨a, 0, none⟩) ∧ s11 = .pointer (some ⟨b, 0, none⟩) ∧ s12 = .bool sb ∧ wr.heap.size ≤ a ∧ wr.heap.size ≤ b ∧ Has wx a 51 (rpC A3 ql c3 l m qn.line qn.any qn.half rj) ∧ Has wx b 40 (sdC sd) ∧ Below wr.heap.size wr wx)
      case first =>
        go_region_held3 (fun W => (W.cell? ⟨w.heap.size, 0, none⟩ = some (.slice A3 ql c3) ∧ W.cell? ⟨w.heap.size, 1, none⟩ = some (.int .i64 (l : Int)) ∧ W.cell? ⟨w.heap.size, 2, none⟩ = some (.string ⟨qn.line.toArray⟩) ∧ W.cell? ⟨w.heap.size, 3, none⟩ = some (.bool qn.any) ∧ W.cell? ⟨w.heap.size, 4, none⟩ = some (.bool qn.half) ∧ W.cell? ⟨w.heap.size, 5, none⟩ = some (.int .i64 (m : Int)) ∧ W.cell? ⟨w.heap.size, 6, none⟩ = some (.string ⟨ri.id.toArray⟩) ∧ W.cell? ⟨w.heap.size, 7, none⟩ = some (.string ⟨ri.type.toArray⟩) ∧ W.cell? ⟨w.heap.size, 8, none⟩ = some (.string ⟨ri.data.toArray⟩) ∧ W.cell? ⟨w.heap.size, 9, none⟩ = some (.bool ri.some) ∧ W.cell? ⟨w.heap.size, 10, none⟩ = some (.bool ri.long)) ∧ W.cell? ⟨g, i * 2, none⟩ = some (.string ⟨yt.toArray⟩) ∧ W.cell? ⟨g, i * 2 + 1, none⟩ = some (.bool yb))
          (first
          | with_reducible exact hK.out _ hbd.out
          | with_reducible exact hK.out _ hbP.out
          | with_reducible exact hK.out _ hbS.out
          | with_reducible exact hK.out _ hbPS.out
          | with_reducible exact hK.out _ hbSP.out
          | with_reducible exact hK.out _ hbw.out
          | with_reducible exact hK.out _ (hbv.out _)
          | (refine hK.out _ ?_; repeat' (first | with_reducible exact hbw.out | with_reducible refine Below.drew ?_ | with_reducible refine Below.alloc ?_ ?_ _ | with_reducible refine Below.setCell ?_ ?_ _ | omega | (simp only [World.size_alloc, World.size_setCell, World.size_drew]; omega) | (simp; omega)))
          | fail)
          (first
          | (go_at_call 33; (with_reducible refine Calls.mono (hlnw.out (wr.drew)) ?_); rintro e w2 ⟨rfl, hb2⟩; have hbw := Lib.hid (hbd.out.trans (hb2.mono hbd.out.size)); have hsw := hbw.out.size; have hbv := Lib.hid (fun o => hbw.out.alloc hbw.out.size o); clear hb2)
          | (go_at_call 33; (with_reducible refine Calls.mono (hlnw.out ((wr.alloc (.cells #[.slice none 0 0, .int .i64 0, .string ⟨#[]⟩, .bool false, .bool false, .int .i64 0, .string ⟨#[]⟩, .string ⟨#[]⟩, .string ⟨#[]⟩, .bool false, .bool false] 51)).drew)) ?_); rintro e w2 ⟨rfl, hb2⟩; have hbw := Lib.hid (hbP.out.trans (hb2.mono hbP.out.size)); have hsw := hbw.out.size; have hbv := Lib.hid (fun o => hbw.out.alloc hbw.out.size o); have nP := (khbPP.out.below hb2 khbPP.out.lt); have cP0 := nP.cell 0; have fP0 := nP.free 0; have cP1 := nP.cell 1; have fP1 := nP.free 1; have cP2 := nP.cell 2; have fP2 := nP.free 2; have cP3 := nP.cell 3; have fP3 := nP.free 3; have cP4 := nP.cell 4; have fP4 := nP.free 4; have cP5 := nP.cell 5; have fP5 := nP.free 5; have cP6 := nP.cell 6; have fP6 := nP.free 6; have cP7 := nP.cell 7; have fP7 := nP.free 7; have cP8 := nP.cell 8; have fP8 := nP.free 8; have cP9 := nP.cell 9; have fP9 := nP.free 9; have cP10 := nP.cell 10; have fP10 := nP.free 10; have ltP := nP.lt; have nPH := Lib.hid nP; clear nP; clear hb2)
          | (go_at_call 33; (with_reducible refine Calls.mono (hlnw.out ((wr.alloc (.cells #[.int .i64 0, .string ⟨#[]⟩, .string ⟨#[]⟩, .string ⟨#[]⟩, .int .u64 0] 40)).drew)) ?_); rintro e w2 ⟨rfl, hb2⟩; have hbw := Lib.hid (hbS.out.trans (hb2.mono hbS.out.size)); have hsw := hbw.out.size; have hbv := Lib.hid (fun o => hbw.out.alloc hbw.out.size o); have nS := (khbSS.out.below hb2 khbSS.out.lt); have cS0 := nS.cell 0; have fS0 := nS.free 0; have cS1 := nS.cell 1; have fS1 := nS.free 1; have cS2 := nS.cell 2; have fS2 := nS.free 2; have cS3 := nS.cell 3; have fS3 := nS.free 3; have cS4 := nS.cell 4; have fS4 := nS.free 4; have ltS := nS.lt; have nSH := Lib.hid nS; clear nS; clear hb2)
          | (go_at_call 33; (with_reducible refine Calls.mono (hlnw.out (((wr.alloc (.cells #[.slice none 0 0, .int .i64 0, .string ⟨#[]⟩, .bool false, .bool false, .int .i64 0, .string ⟨#[]⟩, .string ⟨#[]⟩, .string ⟨#[]⟩, .bool false, .bool false] 51)).alloc (.cells #[.int .i64 0, .string ⟨#[]⟩, .string ⟨#[]⟩, .string ⟨#[]⟩, .int .u64 0] 40)).drew)) ?_); rintro e w2 ⟨rfl, hb2⟩; have hbw := Lib.hid (hbPS.out.trans (hb2.mono hbPS.out.size)); have hsw := hbw.out.size; have hbv := Lib.hid (fun o => hbw.out.alloc hbw.out.size o); have nP := (khbPSP.out.below hb2 khbPSP.out.lt); have cP0 := nP.cell 0; have fP0 := nP.free 0; have cP1 := nP.cell 1; have fP1 := nP.free 1; have cP2 := nP.cell 2; have fP2 := nP.free 2; have cP3 := nP.cell 3; have fP3 := nP.free 3; have cP4 := nP.cell 4; have fP4 := nP.free 4; have cP5 := nP.cell 5; have fP5 := nP.free 5; have cP6 := nP.cell 6; have fP6 := nP.free 6; have cP7 := nP.cell 7; have fP7 := nP.free 7; have cP8 := nP.cell 8; have fP8 := nP.free 8; have cP9 := nP.cell 9; have fP9 := nP.free 9; have cP10 := nP.cell 10; have fP10 := nP.free 10; have ltP := nP.lt; have nPH := Lib.hid nP; clear nP; have nS := (khbPSS.out.below hb2 khbPSS.out.lt); have cS0 := nS.cell 0; have fS0 := nS.free 0; have cS1 := nS.cell 1; have fS1 := nS.free 1; have cS2 := nS.cell 2; have fS2 := nS.free 2; have cS3 := nS.cell 3; have fS3 := nS.free 3; have cS4 := nS.cell 4; have fS4 := nS.free 4; have ltS := nS.lt; have nSH := Lib.hid nS; clear nS; clear hb2)
          | (go_at_call 33; (with_reducible refine Calls.mono (hlnw.out (((wr.alloc (.cells #[.int .i64 0, .string ⟨#[]⟩, .string ⟨#[]⟩, .string ⟨#[]⟩, .int .u64 0] 40)).alloc (.cells #[.slice none 0 0, .int .i64 0, .string ⟨#[]⟩, .bool false, .bool false, .int .i64 0, .string ⟨#[]⟩, .string ⟨#[]⟩, .string ⟨#[]⟩, .bool false, .bool false] 51)).drew)) ?_); rintro e w2 ⟨rfl, hb2⟩; have hbw := Lib.hid (hbSP.out.trans (hb2.mono hbSP.out.size)); have hsw := hbw.out.size; have hbv := Lib.hid (fun o => hbw.out.alloc hbw.out.size o); have nS := (khbSPS.out.below hb2 khbSPS.out.lt); have cS0 := nS.cell 0; have fS0 := nS.free 0; have cS1 := nS.cell 1; have fS1 := nS.free 1; have cS2 := nS.cell 2; have fS2 := nS.free 2; have cS3 := nS.cell 3; have fS3 := nS.free 3; have cS4 := nS.cell 4; have fS4 := nS.free 4; have ltS := nS.lt; have nSH := Lib.hid nS; clear nS; have nP := (khbSPP.out.below hb2 khbSPP.out.lt); have cP0 := nP.cell 0; have fP0 := nP.free 0; have cP1 := nP.cell 1; have fP1 := nP.free 1; have cP2 := nP.cell 2; have fP2 := nP.free 2; have cP3 := nP.cell 3; have fP3 := nP.free 3; have cP4 := nP.cell 4; have fP4 := nP.free 4; have cP5 := nP.cell 5; have fP5 := nP.free 5; have cP6 := nP.cell 6; have fP6 := nP.free 6; have cP7 := nP.cell 7; have fP7 := nP.free 7; have cP8 := nP.cell 8; have fP8 := nP.free 8; have cP9 := nP.cell 9; have fP9 := nP.free 9; have cP10 := nP.cell 10; have fP10 := nP.free 10; have ltP := nP.lt; have nPH := Lib.hid nP; clear nP; clear hb2)
          | fail)
        · go_wp2_with fail
          go_meet
          case rel =>
            have h2 := Has.new (w2.alloc (.cells #[.slice A3 ql c3, .int .i64 (l : Int), .string ⟨qn.line.toArray⟩, .bool qn.any, .bool qn.half, .int .i64 (m : Int), .string ⟨rj.id.toArray⟩, .string ⟨rj.type.toArray⟩, .string ⟨rj.data.toArray⟩, .bool rj.some, .bool rj.long] 51)) 40 (sdC sd)
            rw [World.size_alloc] at h2
            exact ⟨_, _, rfl, rfl, rfl, hsw, by omega, (Has.new w2 _ _).alloc _, h2, (hbw.out.alloc hsw _).alloc (by rw [World.size_alloc]; omega) _⟩
        · go_wp2_with fail
          go_meet
          case rel =>
            have h2 := Has.new (w2.alloc (.cells #[.int .i64 sd.1, .string ⟨sd.2.1.1.toArray⟩, .string ⟨sd.2.1.2.1.toArray⟩, .string ⟨sd.2.1.2.2.toArray⟩, .int .u64 sd.2.2] 40)) 51 (rpC A3 ql c3 l m qn.line qn.any qn.half rj)
            rw [World.size_alloc] at h2
            exact ⟨_, _, rfl, rfl, rfl, by omega, hsw, h2, (Has.new w2 _ _).alloc _, (hbw.out.alloc hsw _).alloc (by rw [World.size_alloc]; omega) _⟩
        · go_wp2_with fail
          go_meet
          case rel =>
            have hP := has_set11 nPH.out (.slice A3 ql c3) (.int .i64 (l : Int)) (.string ⟨qn.line.toArray⟩) (.bool qn.any) (.bool qn.half) (.int .i64 (m : Int)) (.string ⟨rj.id.toArray⟩) (.string ⟨rj.type.toArray⟩) (.string ⟨rj.data.toArray⟩) (.bool rj.some) (.bool rj.long)
            have hC := chg_set11 w2 wr.heap.size (.slice A3 ql c3) (.int .i64 (l : Int)) (.string ⟨qn.line.toArray⟩) (.bool qn.any) (.bool qn.half) (.int .i64 (m : Int)) (.string ⟨rj.id.toArray⟩) (.string ⟨rj.type.toArray⟩) (.string ⟨rj.data.toArray⟩) (.bool rj.some) (.bool rj.long)
            have hb := hbw.out.trans (hC.below (B := wr.heap.size) (fun k hk => Nat.le_of_eq hk.symm) hsw)
            have hz : (S11 w2 wr.heap.size (.slice A3 ql c3) (.int .i64 (l : Int)) (.string ⟨qn.line.toArray⟩) (.bool qn.any) (.bool qn.half) (.int .i64 (m : Int)) (.string ⟨rj.id.toArray⟩) (.string ⟨rj.type.toArray⟩) (.string ⟨rj.data.toArray⟩) (.bool rj.some) (.bool rj.long)).heap.size = w2.heap.size := by simp [S11]
            have h2 := Has.new (S11 w2 wr.heap.size (.slice A3 ql c3) (.int .i64 (l : Int)) (.string ⟨qn.line.toArray⟩) (.bool qn.any) (.bool qn.half) (.int .i64 (m : Int)) (.string ⟨rj.id.toArray⟩) (.string ⟨rj.type.toArray⟩) (.string ⟨rj.data.toArray⟩) (.bool rj.some) (.bool rj.long)) 40 (sdC sd)
            rw [hz] at h2
            exact ⟨_, _, rfl, rfl, rfl, Nat.le_refl _, hsw, hP.alloc _, h2, hb.alloc hb.size _⟩
        · go_wp2_with fail
          go_meet
          case rel =>
            have hP := has_set11 nPH.out (.slice A3 ql c3) (.int .i64 (l : Int)) (.string ⟨qn.line.toArray⟩) (.bool qn.any) (.bool qn.half) (.int .i64 (m : Int)) (.string ⟨rj.id.toArray⟩) (.string ⟨rj.type.toArray⟩) (.string ⟨rj.data.toArray⟩) (.bool rj.some) (.bool rj.long)
            have hC := chg_set11 w2 wr.heap.size (.slice A3 ql c3) (.int .i64 (l : Int)) (.string ⟨qn.line.toArray⟩) (.bool qn.any) (.bool qn.half) (.int .i64 (m : Int)) (.string ⟨rj.id.toArray⟩) (.string ⟨rj.type.toArray⟩) (.string ⟨rj.data.toArray⟩) (.bool rj.some) (.bool rj.long)
            have hS0 := hC.has (show ¬ (wr.heap.size + 1 = wr.heap.size) by omega) nSH.out
            have hS := has_setS hS0 (.int .i64 sd.1) (.string ⟨sd.2.1.1.toArray⟩) (.string ⟨sd.2.1.2.1.toArray⟩) (.string ⟨sd.2.1.2.2.toArray⟩) (.int .u64 sd.2.2)
            have hC2 := chg_setS (S11 w2 wr.heap.size (.slice A3 ql c3) (.int .i64 (l : Int)) (.string ⟨qn.line.toArray⟩) (.bool qn.any) (.bool qn.half) (.int .i64 (m : Int)) (.string ⟨rj.id.toArray⟩) (.string ⟨rj.type.toArray⟩) (.string ⟨rj.data.toArray⟩) (.bool rj.some) (.bool rj.long)) (wr.heap.size + 1) (.int .i64 sd.1) (.string ⟨sd.2.1.1.toArray⟩) (.string ⟨sd.2.1.2.1.toArray⟩) (.string ⟨sd.2.1.2.2.toArray⟩) (.int .u64 sd.2.2)
            have hP2 := hC2.has (show ¬ (wr.heap.size = wr.heap.size + 1) by omega) hP
            have hb := hbw.out.trans (hC.below (B := wr.heap.size) (fun k hk => Nat.le_of_eq hk.symm) hsw)
            have hb2 := hb.trans (hC2.below (B := wr.heap.size) (fun k (hk : k = wr.heap.size + 1) => by omega) hb.size)
            exact ⟨_, _, rfl, rfl, rfl, Nat.le_refl _, Nat.le_succ _, hP2, hS, hb2⟩
        · go_wp2_with fail
          go_meet
          case rel =>
            have hS := has_setS nSH.out (.int .i64 sd.1) (.string ⟨sd.2.1.1.toArray⟩) (.string ⟨sd.2.1.2.1.toArray⟩) (.string ⟨sd.2.1.2.2.toArray⟩) (.int .u64 sd.2.2)
            have hC := chg_setS w2 wr.heap.size (.int .i64 sd.1) (.string ⟨sd.2.1.1.toArray⟩) (.string ⟨sd.2.1.2.1.toArray⟩) (.string ⟨sd.2.1.2.2.toArray⟩) (.int .u64 sd.2.2)
            have hb := hbw.out.trans (hC.below (B := wr.heap.size) (fun k hk => Nat.le_of_eq hk.symm) hsw)
            have hz : (SS5 w2 wr.heap.size (.int .i64 sd.1) (.string ⟨sd.2.1.1.toArray⟩) (.string ⟨sd.2.1.2.1.toArray⟩) (.string ⟨sd.2.1.2.2.toArray⟩) (.int .u64 sd.2.2)).heap.size = w2.heap.size := by simp [SS5]
            have h2 := Has.new (SS5 w2 wr.heap.size (.int .i64 sd.1) (.string ⟨sd.2.1.1.toArray⟩) (.string ⟨sd.2.1.2.1.toArray⟩) (.string ⟨sd.2.1.2.2.toArray⟩) (.int .u64 sd.2.2)) 51 (rpC A3 ql c3 l m qn.line qn.any qn.half rj)
            rw [hz] at h2
            exact ⟨_, _, rfl, rfl, rfl, hsw, Nat.le_refl _, h2, hS.alloc _, hb.alloc hb.size _⟩
        · go_wp2_with fail
          go_meet
          case rel =>
            have hP := has_set11 nPH.out (.slice A3 ql c3) (.int .i64 (l : Int)) (.string ⟨qn.line.toArray⟩) (.bool qn.any) (.bool qn.half) (.int .i64 (m : Int)) (.string ⟨rj.id.toArray⟩) (.string ⟨rj.type.toArray⟩) (.string ⟨rj.data.toArray⟩) (.bool rj.some) (.bool rj.long)
            have hC := chg_set11 w2 (wr.heap.size + 1) (.slice A3 ql c3) (.int .i64 (l : Int)) (.string ⟨qn.line.toArray⟩) (.bool qn.any) (.bool qn.half) (.int .i64 (m : Int)) (.string ⟨rj.id.toArray⟩) (.string ⟨rj.type.toArray⟩) (.string ⟨rj.data.toArray⟩) (.bool rj.some) (.bool rj.long)
            have hS0 := hC.has (show ¬ (wr.heap.size = wr.heap.size + 1) by omega) nSH.out
            have hS := has_setS hS0 (.int .i64 sd.1) (.string ⟨sd.2.1.1.toArray⟩) (.string ⟨sd.2.1.2.1.toArray⟩) (.string ⟨sd.2.1.2.2.toArray⟩) (.int .u64 sd.2.2)
            have hC2 := chg_setS (S11 w2 (wr.heap.size + 1) (.slice A3 ql c3) (.int .i64 (l : Int)) (.string ⟨qn.line.toArray⟩) (.bool qn.any) (.bool qn.half) (.int .i64 (m : Int)) (.string ⟨rj.id.toArray⟩) (.string ⟨rj.type.toArray⟩) (.string ⟨rj.data.toArray⟩) (.bool rj.some) (.bool rj.long)) wr.heap.size (.int .i64 sd.1) (.string ⟨sd.2.1.1.toArray⟩) (.string ⟨sd.2.1.2.1.toArray⟩) (.string ⟨sd.2.1.2.2.toArray⟩) (.int .u64 sd.2.2)
            have hP2 := hC2.has (show ¬ (wr.heap.size + 1 = wr.heap.size) by omega) hP
            have hb := hbw.out.trans (hC.below (B := wr.heap.size) (fun k (hk : k = wr.heap.size + 1) => by omega) hsw)
            have hb2 := hb.trans (hC2.below (B := wr.heap.size) (fun k hk => Nat.le_of_eq hk.symm) hb.size)
            exact ⟨_, _, rfl, rfl, rfl, Nat.le_succ _, Nat.le_refl _, hP2, hS, hb2⟩
      case rest =>
        obtain ⟨a, b, rfl, rfl, rfl, ha, hb', hHa, hHb, hbx⟩ := hcut
        have hPl := hMH.out.lt
        have hMx := hMH.out.below hbx hPl
        have y0 := hHa.cell 0
        have y1 := hHa.cell 1
        have y2 := hHa.cell 2
        have y3 := hHa.cell 3
        have y4 := hHa.cell 4
        have y5 := hHa.cell 5
        have y6 := hHa.cell 6
        have y7 := hHa.cell 7
        have y8 := hHa.cell 8
        have y9 := hHa.cell 9
        have y10 := hHa.cell 10
        unfold rpC at y0 y1 y2 y3 y4 y5 y6 y7 y8 y9 y10
        have p0 := hMx.cell 0
        have f0 := hMx.free 0
        have p1 := hMx.cell 1
        have f1 := hMx.free 1
        have p2 := hMx.cell 2
        have f2 := hMx.free 2
        have p3 := hMx.cell 3
        have f3 := hMx.free 3
        have p4 := hMx.cell 4
        have f4 := hMx.free 4
        have p5 := hMx.cell 5
        have f5 := hMx.free 5
        have p6 := hMx.cell 6
        have f6 := hMx.free 6
        have p7 := hMx.cell 7
        have f7 := hMx.free 7
        have p8 := hMx.cell 8
        have f8 := hMx.free 8
        have p9 := hMx.cell 9
        have f9 := hMx.free 9
        have p10 := hMx.cell 10
        have f10 := hMx.free 10
        have kP := has_set11 hMx (.slice A3 ql c3) (.int .i64 (l : Int)) (.string ⟨qn.line.toArray⟩) (.bool qn.any) (.bool qn.half) (.int .i64 (m : Int)) (.string ⟨rj.id.toArray⟩) (.string ⟨rj.type.toArray⟩) (.string ⟨rj.data.toArray⟩) (.bool rj.some) (.bool rj.long)
        have hC8 := chg_set11 wc w.heap.size (.slice A3 ql c3) (.int .i64 (l : Int)) (.string ⟨qn.line.toArray⟩) (.bool qn.any) (.bool qn.half) (.int .i64 (m : Int)) (.string ⟨rj.id.toArray⟩) (.string ⟨rj.type.toArray⟩) (.string ⟨rj.data.toArray⟩) (.bool rj.some) (.bool rj.long)
        have hS8 := hC8.has (show ¬ (b = w.heap.size) by omega) hHb
        have hCc := (hCH.out.trans (.of_below hbx)).trans hC8
        have hv8 := (hvH.out.below hbx).kept (fun g hg => hC8.block g (by have := ((hvH.out.below hbx).own g hg).2.choose_spec.lt; exact this) (fun e => by have := (hvH.out.own g hg).1; have e : g = w.heap.size := e; omega))
        have hz8 := hC8.size
        obtain ⟨w9, hw9⟩ : ∃ w9, S11 wc w.heap.size (.slice A3 ql c3) (.int .i64 (l : Int)) (.string ⟨qn.line.toArray⟩) (.bool qn.any) (.bool qn.half) (.int .i64 (m : Int)) (.string ⟨rj.id.toArray⟩) (.string ⟨rj.type.toArray⟩) (.string ⟨rj.data.toArray⟩) (.bool rj.some) (.bool rj.long) = w9 := ⟨_, rfl⟩
        rw [hw9] at kP hC8 hS8 hCc hv8 hz8
        have hz9 : w5.heap.size ≤ w9.heap.size := hCc.size
        unfold S11 at hw9
        have hw9' := Lib.hid hw9
        have kP9 := Lib.hid kP
        have hS9 := Lib.hid hS8
        have hC9 := Lib.hid hCc
        have hv9 := Lib.hid hv8
        have hbz := hS8.lt
        clear hw9 kP hS8 hCc hv8 hC8 hMx hHa hHb hbx
        go_upto_region 9 with (fail)
        rw [hw9'.out]
        clear hw9' y0 y1 y2 y3 y4 y5 y6 y7 y8 y9 y10 p0 f0 p1 f1 p2 f2 p3 f3 p4 f4 p5 f5 p6 f6 p7 f7 p8 f8 p9 f9 p10 f10
        cases sj with
        | none =>
          simp only [Option.isSome_none] at hsb
          subst hsb
          go_wp2
          refine ⟨⟨i + 1, by go_num, by omega, ?_, ?_, ?_⟩, by simp [intOf]; omega⟩
          · rw [hnH.out]
            simpa using hv9.out
          · rw [hnH.out]
            exact kP9.out
          · exact hC9.out
        | some y =>
          simp only [Option.isSome_some] at hsb
          have hyd : y = sd := hsd
          subst hsb
          have s0 := hS9.out.cell 0
          have s1 := hS9.out.cell 1
          have s2 := hS9.out.cell 2
          have s3 := hS9.out.cell 3
          have s4 := hS9.out.cell 4
          unfold sdC at s0 s1 s2 s3 s4
          have hnw := Lib.hid (SdAt.lit (xs := [sd]) (Has.new w9 40 (sdC sd)))
          have hva := Lib.hid (hv9.out.below ((Below.refl _ _).alloc (Nat.le_refl _) (.cells (sdC sd) 40)))
          have hlen : Hid (so.length + 1 ≤ 1000000000) := Lib.hid (by omega)
          clear hsd
          go_wp2_with (at_builtin; refine wpList_append_sds rfl _ _ rfl rfl hva.out (some ⟨w9.heap.size, 0, none⟩) [sd] 1 1 rfl rfl hnw.out hlen.out (by simp; omega) ?_; intro v3 w3 hv3 hg3; have hv3' := Lib.hid hv3; have hg3' := Lib.hid hg3; clear hv3 hg3)
          have hal : Below w9.heap.size w9 (w9.alloc (.cells (sdC sd) 40)) := (Below.refl _ _).alloc (Nat.le_refl _) _
          refine ⟨⟨i + 1, by go_num, by omega, ?_, ?_, ?_⟩, by simp [intOf]; omega⟩
          · rw [hnH.out, hyd]
            simpa using hv3'.out
          · rw [hnH.out]
            exact (hg3'.out.block w.heap.size (by simp; omega) (fun e => by have := (hva.out.own _ e.symm).1; omega)).trans (kP9.out.alloc _)
          · exact (hC9.out.trans (.of_below hal)).grownBy hg3'.out (fun g e => (hva.out.own g e).1)
    · obtain rfl : i = N := by omega
      have hNN := hN'.out
      rw [List.take_of_length_le (by omega)] at hv hM
      have hqz := hql'.out
      obtain ⟨⟨ri, so⟩, hrs⟩ : ∃ z, rfLines m r rl = z := ⟨_, rfl⟩
      rw [hrs] at hv hM
      simp only at hv hM
      unfold rpC at hM
      have hRr := hC.has (show ¬ (w.heap.size + 1 = w.heap.size) by omega) kRH.out
      have p0 := hM.cell 0
      have g0 := hRr.cell 0
      have f0 := hRr.free 0
      have p1 := hM.cell 1
      have g1 := hRr.cell 1
      have f1 := hRr.free 1
      have p2 := hM.cell 2
      have g2 := hRr.cell 2
      have f2 := hRr.free 2
      have p3 := hM.cell 3
      have g3 := hRr.cell 3
      have f3 := hRr.free 3
      have p4 := hM.cell 4
      have g4 := hRr.cell 4
      have f4 := hRr.free 4
      have p5 := hM.cell 5
      have g5 := hRr.cell 5
      have f5 := hRr.free 5
      have p6 := hM.cell 6
      have g6 := hRr.cell 6
      have f6 := hRr.free 6
      have p7 := hM.cell 7
      have g7 := hRr.cell 7
      have f7 := hRr.free 7
      have p8 := hM.cell 8
      have g8 := hRr.cell 8
      have f8 := hRr.free 8
      have p9 := hM.cell 9
      have g9 := hRr.cell 9
      have f9 := hRr.free 9
      have p10 := hM.cell 10
      have g10 := hRr.cell 10
      have f10 := hRr.free 10
      obtain ⟨A9, c9, rfl, _⟩ := hv.shape
      obtain ⟨ln, hln9⟩ : ∃ ln, so.length = ln := ⟨_, rfl⟩
      rw [hln9] at hv ⊢
      have hln' := Lib.hid hln9
      have hv' := Lib.hid hv
      have hC' := Lib.hid hC
      have hRr' := Lib.hid hRr
      have hrs' := Lib.hid hrs
      clear hv hM hC hRr hrs hln9
      go_wp2
      have kF := has_set11 hRr'.out (.slice A3 ql c3) (.int .i64 (l : Int)) (.string ⟨qn.line.toArray⟩) (.bool qn.any) (.bool qn.half) (.int .i64 (m : Int)) (.string ⟨ri.id.toArray⟩) (.string ⟨ri.type.toArray⟩) (.string ⟨ri.data.toArray⟩) (.bool ri.some) (.bool ri.long)
      have hCR := chg_set11 wr (w.heap.size + 1) (.slice A3 ql c3) (.int .i64 (l : Int)) (.string ⟨qn.line.toArray⟩) (.bool qn.any) (.bool qn.half) (.int .i64 (m : Int)) (.string ⟨ri.id.toArray⟩) (.string ⟨ri.type.toArray⟩) (.string ⟨ri.data.toArray⟩) (.bool ri.some) (.bool ri.long)
      have x0 := kF.cell 0
      have x1 := kF.cell 1
      have x2 := kF.cell 2
      have x3 := kF.cell 3
      have x4 := kF.cell 4
      have x5 := kF.cell 5
      have x6 := kF.cell 6
      have x7 := kF.cell 7
      have x8 := kF.cell 8
      have x9 := kF.cell 9
      have x10 := kF.cell 10
      refine bodyPost_ret (v := .tuple #[.agg #[.slice A3 ql c3, .int .i64 (l : Int), .string ⟨qn.line.toArray⟩, .bool qn.any, .bool qn.half, .int .i64 (m : Int), .string ⟨ri.id.toArray⟩, .string ⟨ri.type.toArray⟩, .string ⟨ri.data.toArray⟩, .bool ri.some, .bool ri.long], .slice A9 ln c9]) (by simp [results, Tryz.results16, go_sem, x0, x1, x2, x3, x4, x5, x6, x7, x8, x9, x10]) rfl ?_
      have hzr := hC'.out.size
      have hzR := hCR.size
      have hz52 : w5.heap.size = Q + 1 := by omega
      have hq5 := hBH.out.size
      have hw25 : w2.heap.size = w.heap.size + 1 + 1 := hz2'.out
      refine ⟨A3, c3, .slice A9 ln c9, ?_, ?_, ?_, ?_⟩
      · rw [hrs'.out, hqz]
      · exact ((hrH.out.kept (fun b hb => hC'.out.block b (by have := hb.2; omega) (fun e => by have e : b = w.heap.size := e; have := hb.1; omega))).kept (fun b hb => hCR.block b (by have := hb.2; omega) (fun e => by have e : b = w.heap.size + 1 := e; have := hb.1; omega))).mono (fun b hb => ⟨by have h : w2.heap.size ≤ b := hb.1; omega, by have h : b < Q := hb.2; exact Nat.lt_of_lt_of_le (show b < wr.heap.size by omega) hzR⟩)
      · rw [hrs'.out]
        exact (hv'.out.kept (fun g hg => hCR.block g (hv'.out.own g hg).2.choose_spec.lt (fun e => by have := (hv'.out.own g hg).1; have e : g = w.heap.size + 1 := e; omega))).mono (by omega)
      · exact (hBH.out.trans (hC'.out.below (B := w.heap.size) (fun k hk => Nat.le_of_eq hk.symm) hBH.out.size)).trans (hCR.below (B := w.heap.size) (fun k (hk : k = w.heap.size + 1) => by omega) (by have := hBH.out.size; omega))
end Go.Proofs.YtlcfpnegpihicaaGreatDoor
