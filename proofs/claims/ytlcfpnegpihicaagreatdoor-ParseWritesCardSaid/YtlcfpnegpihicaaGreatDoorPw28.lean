import Derived.Test.YtlcfpnegpihicaaGreatDoorPw26
import Derived.Test.YtlcfpnegpihicaaGreatDoorPw27
import Derived.Deep.RegionHeld3
import Derived.Test.YtlcfpnegpihicaaGreatDoorPw25
import Derived.Test.YtlcfpnegpihicaaGreatDoorPw21
import Derived.Test.YtlcfpnegpihicaaGreatDoorPw24
namespace Go.Proofs.YtlcfpnegpihicaaGreatDoor
open Go.RowKit Go.Maps

/-! ## The document's Line, Right -/
theorem cat_mk (a b : List UInt8) : (⟨a.toArray⟩ : ByteArray) ++ ⟨b.toArray⟩ = ⟨(a ++ b).toArray⟩ := by
  apply ByteArray.ext
  simp [ByteArray.data_append]
set_option maxRecDepth 100000 in
theorem refLineF_any (f : Int × List UInt8 × List UInt8) (w : World) (h1 : f.2.1.length ≤ 1000000) (h2 : f.2.2.length ≤ 1000000) : Calls Tryz.prog 95 #[.agg #[.int .i64 f.1, .string ⟨f.2.1.toArray⟩, .string ⟨f.2.2.toArray⟩]] w fun e w' => e = .returned (.string ⟨(refLine f).toArray⟩) ∧ Below w.heap.size w w' := by
  obtain ⟨ki, nm, vl⟩ := f
  simp only at h1 h2 ⊢
  have hr : refLine (ki, nm, vl) = if ki = 2 then 58 :: vl else if vl = [] then nm else nm ++ 58 :: 32 :: vl := rfl
  by_cases k2 : ki = 2
  · subst k2
    rw [if_pos rfl] at hr
    have hr' := Lib.hid hr
    clear hr
    have hcat := cat_mk [58] vl
    simp only [List.cons_append, List.nil_append] at hcat
    go_enter Tryz.func95, Tryz.ntmps95
    go_wp2
    go_ret
    exact ⟨by rw [hr'.out]; rfl, (Below.refl _ _).alloc (Nat.le_refl _) _⟩
  · rw [if_neg k2] at hr
    by_cases hv : vl = []
    · subst hv
      rw [if_pos rfl] at hr
      have hr' := Lib.hid hr
      clear hr
      go_enter Tryz.func95, Tryz.ntmps95
      go_wp2
      go_ret
      exact ⟨by rw [hr'.out]; rfl, (Below.refl _ _).alloc (Nat.le_refl _) _⟩
    · rw [if_neg hv] at hr
      have hie := isE hv
      have hr' := Lib.hid hr
      clear hr
      have hc1 := cat_mk nm [58, 32]
      have hc2 := cat_mk (nm ++ [58, 32]) vl
      rw [show nm ++ [58, 32] ++ vl = nm ++ 58 :: 32 :: vl by simp] at hc2
      obtain ⟨t, ht⟩ : ∃ t, nm ++ [58, 32] = t := ⟨_, rfl⟩
      have hl : t.length ≤ 1000002 := by rw [← ht]; simp; omega
      rw [ht] at hc1 hc2
      clear ht
      go_enter Tryz.func95, Tryz.ntmps95
      go_wp2
      go_ret
      exact ⟨by rw [hr'.out]; rfl, (Below.refl _ _).alloc (Nat.le_refl _) _⟩
theorem refLine_len (f : Int × List UInt8 × List UInt8) (h1 : f.2.1.length ≤ 400000) (h2 : f.2.2.length ≤ 400000) : (refLine f).length ≤ 1000000 := by
  unfold refLine
  split
  · simp; omega
  · split
    · omega
    · simp; omega
set_option maxRecDepth 100000 in
theorem rightF_any (f : Int × List UInt8 × List UInt8) (w : World) (hwf : (Lit.int .i64 f.1).wf = true) (h1 : f.2.1.length ≤ 400000) (h2 : f.2.2.length ≤ 400000) : Calls Tryz.prog 70 #[.agg #[.int .i64 f.1, .string ⟨f.2.1.toArray⟩, .string ⟨f.2.2.toArray⟩]] w fun e w' => e = .returned (.bool (sayF f)) ∧ Below w.heap.size w w' := by
  have hln := refLine_len f h1 h2
  have hfl := fieldF_len (refLine f)
  have hcl := fun W => refLineF_any f W (by omega) (by omega)
  have hco := fun W => refOfF_any (refLine f) W hln
  have heq := fun W => field_equal (fieldF (refLine f)) f (fieldF_wf _) hwf (by omega) (by omega) (by omega) (by omega) W
  rw [right_say] at heq
  have hcl' := Lib.hid hcl
  have hco' := Lib.hid hco
  clear hcl hco hfl hln
  have kB := Has.new w 104 #[.int .i64 f.1, .string ⟨f.2.1.toArray⟩, .string ⟨f.2.2.toArray⟩]
  have hb1 : Below w.heap.size w (w.alloc (.cells #[.int .i64 f.1, .string ⟨f.2.1.toArray⟩, .string ⟨f.2.2.toArray⟩] 104)) := (Below.refl _ _).alloc (Nat.le_refl _) _
  obtain ⟨w1, hw1⟩ : ∃ w1, w.alloc (.cells #[.int .i64 f.1, .string ⟨f.2.1.toArray⟩, .string ⟨f.2.2.toArray⟩] 104) = w1 := ⟨_, rfl⟩
  rw [hw1] at kB hb1
  have hw1' := Lib.hid hw1
  have z1 : w1.heap.size = w.heap.size + 1 := by rw [← hw1]; simp
  have hall := Lib.hid (fun (W : World) (h : Below w1.heap.size w1 W) => show W.cell? ⟨w.heap.size, 0, none⟩ = some (.int .i64 f.1) ∧ W.cell? ⟨w.heap.size, 1, none⟩ = some (.string ⟨f.2.1.toArray⟩) ∧ W.cell? ⟨w.heap.size, 2, none⟩ = some (.string ⟨f.2.2.toArray⟩) from
    have hX := kB.below h (by omega)
    ⟨hX.cell 0, hX.cell 1, hX.cell 2⟩)
  have hb1' := Lib.hid hb1
  have hc0 := Lib.hid (Below.refl w1.heap.size w1).drew
  clear hw1 z1 kB hb1 hwf
  generalize sayF f = Q at heq ⊢
  generalize refLine f = l at heq hcl' hco'
  generalize fieldF l = g at heq hco'
  obtain ⟨ki, nm, vl⟩ := f
  obtain ⟨k2, n2, v2⟩ := g
  simp only [fieldV] at *
  go_enter Tryz.func70, Tryz.ntmps70
  go_upto_region 1 with fail
  rw [show w.alloc (.cells #[.int .i64 ki, .string ⟨nm.toArray⟩, .string ⟨vl.toArray⟩] 104) = w1 from hw1'.out]
  go_region_held3 (fun W => W.cell? ⟨w.heap.size, 0, none⟩ = some (.int .i64 ki) ∧ W.cell? ⟨w.heap.size, 1, none⟩ = some (.string ⟨nm.toArray⟩) ∧ W.cell? ⟨w.heap.size, 2, none⟩ = some (.string ⟨vl.toArray⟩))
    (first
    | with_reducible exact hall.out _ hc3.out
    | with_reducible exact hall.out _ hc2.out
    | with_reducible exact hall.out _ hc0.out
    | fail)
    (first
    | (go_at_call 95; (with_reducible refine Calls.mono (hcl'.out _) ?_); rintro e w2 ⟨rfl, hl2⟩; have hc2 := Lib.hid (hc0.out.trans (hl2.mono hc0.out.size)); clear hl2)
    | (go_at_call 51; (with_reducible refine Calls.mono (hco'.out _) ?_); rintro e w3 ⟨rfl, hl3⟩; have hc3 := Lib.hid (hc2.out.trans (hl3.mono hc2.out.size)); clear hl3)
    | fail)
  go_wp2
  go_ret
  exact ⟨rfl, hb1'.out.trans (hc3.out.mono hb1'.out.size)⟩
end Go.Proofs.YtlcfpnegpihicaaGreatDoor

namespace Go.Proofs.YtlcfpnegpihicaaGreatDoor
open Go.RowKit Go.Maps

/-! ## The document's Retry, Counts, Name -/
theorem right_at (ki : Int) (nm vl : List UInt8) (w0 w : World) (hb : Below w0.heap.size w0 w) (hwf : (Lit.int .i64 ki).wf = true) (h1 : nm.length ≤ 400000) (h2 : vl.length ≤ 400000) : Calls Tryz.prog 70 #[.agg #[.int .i64 ki, .string ⟨nm.toArray⟩, .string ⟨vl.toArray⟩]] w fun e w' => e = .returned (.bool (sayF (ki, nm, vl))) ∧ Below w.heap.size w w' ∧ Below w0.heap.size w0 w' := by
  refine (rightF_any (ki, nm, vl) w hwf h1 h2).mono ?_
  rintro e w' ⟨rfl, h⟩
  exact ⟨rfl, h, hb.trans (h.mono hb.size)⟩
set_option maxRecDepth 100000 in
theorem refRetryF_any (f : Int × List UInt8 × List UInt8) (w : World) (hwf : (Lit.int .i64 f.1).wf = true) (h1 : f.2.1.length ≤ 400000) (h2 : f.2.2.length ≤ 400000) :
    Calls Tryz.prog 54 #[fieldV f] w fun e w' => e = Retr (retryF f) ∧ Below w.heap.size w w' := by
  obtain ⟨ki, nm, vl⟩ := f
  simp only at hwf h1 h2
  unfold fieldV
  simp only
  have hb0 : Below w.heap.size w (w.alloc (.cells #[.int .i64 ki, .string ⟨nm.toArray⟩, .string ⟨vl.toArray⟩] 104)) := (Below.refl _ _).alloc (Nat.le_refl _) _
  have hc := right_at ki nm vl w (w.alloc (.cells #[.int .i64 ki, .string ⟨nm.toArray⟩, .string ⟨vl.toArray⟩] 104)) hb0 hwf h1 h2
  have kR := Lib.hid (Has.new w 104 #[.int .i64 ki, .string ⟨nm.toArray⟩, .string ⟨vl.toArray⟩])
  have hd := fun W => refDigits_any ⟨vl.toArray⟩ (by show vl.toArray.size ≤ _; simp; omega) W
  rw [show (ByteArray.mk vl.toArray).data.toList = vl from by simp] at hd
  have hr : retryF (ki, nm, vl) = if sayF (ki, nm, vl) = true ∧ ki = 6 then ((numR 10 vl).1, (numR 10 vl).2 == 0) else (0, false) := rfl
  have hb0' := Lib.hid hb0
  clear hb0 hwf
  cases hs : sayF (ki, nm, vl) with
  | false =>
    rw [hs] at hc hr
    rw [if_neg (fun e => by cases e.1)] at hr
    have hr' := Lib.hid hr
    have hc' := Lib.hid hc
    clear hr hc hd hs
    go_enter Tryz.func54, Tryz.ntmps54
    go_wp2_with ((go_at_call 70; (with_reducible refine Calls.mono hc'.out ?_); rintro e w2 ⟨rfl, hb2, hb3⟩))
    go_ret2
    exact ⟨retr_of hr'.out, hb3⟩
  | true =>
    rw [hs] at hc hr
    by_cases k6 : ki = 6
    · subst k6
      rw [if_pos ⟨rfl, rfl⟩] at hr
      have hr' := Lib.hid hr
      have hc' := Lib.hid hc
      clear hr hc hs
      generalize numR 10 vl = r at hd hr'
      have hd' := Lib.hid hd
      clear hd
      go_enter Tryz.func54, Tryz.ntmps54
      go_wp2_with (first
        | (go_at_call 70; (with_reducible refine Calls.mono hc'.out ?_); rintro e w2 ⟨rfl, hb2, hb3⟩; have x0 := (kR.out.below hb2 kR.out.lt).cell 0; have x2 := (kR.out.below hb2 kR.out.lt).cell 2; have hb3' := Lib.hid hb3; clear hb2 hb3)
        | (go_at_call 71; (with_reducible refine Calls.mono (hd'.out _) ?_); rintro e w4 ⟨rfl, rfl⟩; simp only [Two]))
      go_ret2
      exact ⟨retr_of hr'.out, hb3'.out⟩
    · rw [if_neg (fun e => k6 e.2)] at hr
      have hr' := Lib.hid hr
      have hc' := Lib.hid hc
      clear hr hc hd hs
      go_enter Tryz.func54, Tryz.ntmps54
      go_wp2_with ((go_at_call 70; (with_reducible refine Calls.mono hc'.out ?_); rintro e w2 ⟨rfl, hb2, hb3⟩; have x0 := (kR.out.below hb2 kR.out.lt).cell 0; have hb3' := Lib.hid hb3; clear hb2 hb3))
      go_ret2
      exact ⟨retr_of hr'.out, hb3'.out⟩
end Go.Proofs.YtlcfpnegpihicaaGreatDoor

namespace Go.Proofs.YtlcfpnegpihicaaGreatDoor
open Go.RowKit Go.Maps

/-! ## The document's Counts -/
theorem retry_at (ki : Int) (nm vl : List UInt8) (w0 w : World) (hb : Below w0.heap.size w0 w) (hwf : (Lit.int .i64 ki).wf = true) (h1 : nm.length ≤ 400000) (h2 : vl.length ≤ 400000) (n : Int) (b : Bool) (hr : retryF (ki, nm, vl) = (n, b)) : Calls Tryz.prog 54 #[.agg #[.int .i64 ki, .string ⟨nm.toArray⟩, .string ⟨vl.toArray⟩]] w fun e w' => e = .returned (.tuple #[.int .u64 n, .bool b]) ∧ Below w.heap.size w w' ∧ Below w0.heap.size w0 w' := by
  refine (refRetryF_any (ki, nm, vl) w hwf h1 h2).mono ?_
  rintro e w' ⟨rfl, h⟩
  rw [hr]
  exact ⟨rfl, h, hb.trans (h.mono hb.size)⟩
set_option maxRecDepth 100000 in
theorem refCountsF_any (f : Int × List UInt8 × List UInt8) (w : World) (hwf : (Lit.int .i64 f.1).wf = true) (h1 : f.2.1.length ≤ 400000) (h2 : f.2.2.length ≤ 400000) :
    Calls Tryz.prog 52 #[fieldV f] w fun e w' => e = .returned (.bool (countsF f)) ∧ Below w.heap.size w w' := by
  obtain ⟨ki, nm, vl⟩ := f
  simp only at hwf h1 h2
  unfold fieldV
  simp only
  have hb0 : Below w.heap.size w (w.alloc (.cells #[.int .i64 ki, .string ⟨nm.toArray⟩, .string ⟨vl.toArray⟩] 104)) := (Below.refl _ _).alloc (Nat.le_refl _) _
  have hc := right_at ki nm vl w (w.alloc (.cells #[.int .i64 ki, .string ⟨nm.toArray⟩, .string ⟨vl.toArray⟩] 104)) hb0 hwf h1 h2
  have kR := Lib.hid (Has.new w 104 #[.int .i64 ki, .string ⟨nm.toArray⟩, .string ⟨vl.toArray⟩])
  have hcf : countsF (ki, nm, vl) = (sayF (ki, nm, vl) && (if ki = 5 then !hasNought vl else if ki = 6 then digitsOk vl else true)) := rfl
  have hrf : retryF (ki, nm, vl) = if sayF (ki, nm, vl) = true ∧ ki = 6 then ((numR 10 vl).1, digitsOk vl) else (0, false) := rfl
  clear hb0
  cases hs : sayF (ki, nm, vl) with
  | false =>
    rw [hs] at hc hcf
    rw [Bool.false_and] at hcf
    rw [hcf]
    have hc' := Lib.hid hc
    clear hcf hrf hc hs
    go_enter Tryz.func52, Tryz.ntmps52
    go_wp2_with ((go_at_call 70; (with_reducible refine Calls.mono hc'.out ?_); rintro e w2 ⟨rfl, hb2, hb3⟩))
    go_ret
    exact ⟨rfl, hb3⟩
  | true =>
    rw [hs] at hc hcf hrf
    rw [Bool.true_and] at hcf
    have hc' := Lib.hid hc
    clear hc hs
    by_cases k5 : ki = 5
    · subst k5
      rw [if_pos rfl] at hcf
      rw [if_neg (fun e => absurd e.2 (by decide))] at hrf
      have hrt := Lib.hid (fun W hb => retry_at 5 nm vl w W hb hwf h1 h2 0 false hrf)
      have hcf' := Lib.hid hcf
      clear hrf hcf
      go_enter Tryz.func52, Tryz.ntmps52
      go_wp2_with ((go_at_call 70; (with_reducible refine Calls.mono hc'.out ?_); rintro e w2 ⟨rfl, hb2, hb3⟩; have x0 := (kR.out.below hb2 kR.out.lt).cell 0; have x1 := (kR.out.below hb2 kR.out.lt).cell 1; have x2 := (kR.out.below hb2 kR.out.lt).cell 2; have kR2 := Lib.hid (kR.out.below hb2 kR.out.lt); have hb3' := Lib.hid hb3; clear hb2 hb3))
      go_loopw [3] (fun v W => ∃ k : Nat, v = .int .i64 (k : Int) ∧ k ≤ vl.length ∧ (0 : UInt8) ∉ vl.take k ∧ W = w2) (fun v _ => vl.length - (intOf v).toNat)
      case atStart => exact ⟨0, rfl, Nat.zero_le _, by simp, rfl⟩
      case round =>
        obtain ⟨k, rfl, hk, hno, rfl⟩ := hrel
        have hno' := Lib.hid hno
        clear hno
        by_cases hlt : k < vl.length
        · have hltI : (k : Int) < (vl.length : Int) := by omega
          by_cases hz : vl[k] = 0
          · have hne : ((((⟨vl.toArray⟩ : ByteArray)[k]'hlt).toNat : Int) == 0) = true := by
              rw [byte_at vl k hlt, hz]; rfl
            have hres := Lib.hid (hasNought_yes (l := vl) (hz ▸ List.getElem_mem hlt))
            clear hz
            go_wp2_with fail
            go_ret
            exact ⟨by rw [hcf'.out, hres.out]; rfl, hb3'.out⟩
          · have hne : ((((⟨vl.toArray⟩ : ByteArray)[k]'hlt).toNat : Int) == 0) = false := by
              rw [byte_at vl k hlt, beq_eq_false_iff_ne]
              intro e
              exact hz (UInt8.toNat_inj.1 (show (vl[k]).toNat = 0 by omega))
            have hno2 := Lib.hid (show (0 : UInt8) ∉ vl.take (k + 1) by
              rw [List.take_succ_eq_append_getElem hlt, List.mem_append, not_or]
              exact ⟨hno'.out, by simpa using fun e => hz e.symm⟩)
            clear hz
            go_wp2_with fail
            exact ⟨⟨k + 1, by go_num, by omega, hno2.out, trivial⟩, by simp [intOf]; omega⟩
        · obtain rfl : k = vl.length := by omega
          have hres := Lib.hid (hasNought_no (l := vl) (by have := hno'.out; rwa [List.take_length] at this))
          go_wp2_with ((go_at_call 54; (with_reducible refine Calls.mono (hrt.out _ hb3'.out) ?_); rintro e w4 ⟨rfl, hb4, hb5⟩; have y0 := (kR2.out.below hb4 kR2.out.lt).cell 0; have hb5' := Lib.hid hb5; clear hb4 hb5))
          go_ret
          exact ⟨by rw [hcf'.out, hres.out]; rfl, hb5'.out⟩
    · rw [if_neg k5] at hcf
      by_cases k6 : ki = 6
      · subst k6
        rw [if_pos rfl] at hcf
        rw [if_pos ⟨rfl, rfl⟩] at hrf
        rw [hcf]
        have hrt := Lib.hid (fun W hb => retry_at 6 nm vl w W hb hwf h1 h2 _ _ hrf)
        clear hrf hcf
        generalize (numR 10 vl).1 = n at hrt
        generalize digitsOk vl = b at hrt ⊢
        go_enter Tryz.func52, Tryz.ntmps52
        go_wp2_with (first
          | (go_at_call 70; (with_reducible refine Calls.mono hc'.out ?_); rintro e w2 ⟨rfl, hb2, hb3⟩; have x0 := (kR.out.below hb2 kR.out.lt).cell 0; have x1 := (kR.out.below hb2 kR.out.lt).cell 1; have x2 := (kR.out.below hb2 kR.out.lt).cell 2; have kR2 := Lib.hid (kR.out.below hb2 kR.out.lt); have hb3' := Lib.hid hb3; clear hb2 hb3)
          | (go_at_call 54; (with_reducible refine Calls.mono (hrt.out _ hb3'.out) ?_); rintro e w4 ⟨rfl, hb4, hb5⟩; have y0 := (kR2.out.below hb4 kR2.out.lt).cell 0; have hb5' := Lib.hid hb5; clear hb4 hb5))
        go_ret
        exact ⟨rfl, hb5'.out⟩
      · rw [if_neg k6] at hcf
        rw [if_neg (fun e => k6 e.2)] at hrf
        rw [hcf]
        have hrt := Lib.hid (fun W hb => retry_at ki nm vl w W hb hwf h1 h2 _ _ hrf)
        clear hrf hcf
        go_enter Tryz.func52, Tryz.ntmps52
        go_wp2_with (first
          | (go_at_call 70; (with_reducible refine Calls.mono hc'.out ?_); rintro e w2 ⟨rfl, hb2, hb3⟩; have x0 := (kR.out.below hb2 kR.out.lt).cell 0; have x1 := (kR.out.below hb2 kR.out.lt).cell 1; have x2 := (kR.out.below hb2 kR.out.lt).cell 2; have kR2 := Lib.hid (kR.out.below hb2 kR.out.lt); have hb3' := Lib.hid hb3; clear hb2 hb3)
          | (go_at_call 54; (with_reducible refine Calls.mono (hrt.out _ hb3'.out) ?_); rintro e w4 ⟨rfl, hb4, hb5⟩; have y0 := (kR2.out.below hb4 kR2.out.lt).cell 0; have hb5' := Lib.hid hb5; clear hb4 hb5))
        go_ret
        exact ⟨rfl, hb5'.out⟩
end Go.Proofs.YtlcfpnegpihicaaGreatDoor

namespace Go.Proofs.YtlcfpnegpihicaaGreatDoor
open Go.RowKit Go.Shelf

/-! ## The document's parser: an event ends, a line, as the mathematics say it -/
def sdO (x : Option Sd) : Sd := x.getD (0, ([], [], []), 0)
/-- What a walk of it asks. -/
structure RfOk (m : Nat) (r : RfS) : Prop where
  i : r.id.length ≤ 1000000
  t : r.type.length ≤ 300000
  d : r.data.length ≤ 300000
  s : r.some = true → r.long = false → r.data ≠ []
theorem refEndsP_any (A : Option Addr) (n c l m : Nat) (line : List UInt8) (any half : Bool) (r : RfS) (w : World) (hr : RfOk m r) (hm : m ≤ 65536) :
    Calls Tryz.prog 53 #[.agg (rpC A n c l m line any half r)] w fun e w' => e = .returned (.tuple #[.agg (rpC A n c l m line any half (rfEnds m r).1), .agg (sdC (sdO (rfEnds m r).2)), .bool (rfEnds m r).2.isSome]) ∧ Below w.heap.size w w' := by
  obtain ⟨id, ty, da, so, lo⟩ := r
  obtain ⟨hi, ht, hd, hs⟩ := hr
  simp only at hi ht hd hs
  have zi := size_mk id
  have zt := size_mk ty
  have zd := size_mk da
  have bi : (⟨id.toArray⟩ : ByteArray).size ≤ 1000000 := by omega
  have bt : (⟨ty.toArray⟩ : ByteArray).size ≤ 1000000 := by omega
  have bd : (⟨da.toArray⟩ : ByteArray).size ≤ 1000000 := by omega
  cases lo with
  | true =>
    have he : rfEnds m ⟨id, ty, da, so, true⟩ = (rfNew id, some (3, ([], [], []), 0)) := by unfold rfEnds; rw [if_pos (.inl rfl)]
    rw [he]
    cases so with
    | true => exact ends_long A n c l m ⟨line.toArray⟩ ⟨id.toArray⟩ ⟨ty.toArray⟩ ⟨da.toArray⟩ any half w bi bt bd hm
    | false => exact ends_long2 A n c l m ⟨line.toArray⟩ ⟨id.toArray⟩ ⟨ty.toArray⟩ ⟨da.toArray⟩ any half w bi bt bd hm
  | false =>
    cases so with
    | true =>
      obtain ⟨k, hk⟩ : ∃ k, da.length = k + 1 := ⟨da.length - 1, by have := List.length_pos_iff.2 (hs rfl rfl); omega⟩
      have hev : rfEv ⟨id, ty, da, true, false⟩ = (id, ty, da.take k) := by unfold rfEv; rw [if_pos ⟨rfl, rfl⟩]; simp only; rw [hk]; rfl
      have hsum : sumE (id, ty, da.take k) = id.length + ty.length + k := by unfold sumE; simp only [List.length_take]; omega
      have hx : (⟨da.toArray⟩ : ByteArray).extract 0 k = ⟨(da.take k).toArray⟩ := extract_take _ _
      by_cases hle : m < id.length + ty.length + k
      · have he : rfEnds m ⟨id, ty, da, true, false⟩ = (rfNew id, some (3, ([], [], []), 0)) := by unfold rfEnds; rw [hev, hsum, if_pos (.inr hle)]
        rw [he]
        exact ends_more A n c l m k ⟨line.toArray⟩ ⟨id.toArray⟩ ⟨ty.toArray⟩ ⟨da.toArray⟩ any half w bi bt bd hm (by omega) (by omega)
      · have he : rfEnds m ⟨id, ty, da, true, false⟩ = (rfNew id, some (1, (id, ty, da.take k), 0)) := by unfold rfEnds; rw [hev, hsum, if_neg (fun e => e.elim (fun e => by cases e) hle), if_pos rfl]
        rw [he]
        have h := ends_event A n c l m k ⟨line.toArray⟩ ⟨id.toArray⟩ ⟨ty.toArray⟩ ⟨da.toArray⟩ any half w bi bt bd hm (by omega) (by omega)
        rw [hx] at h
        exact h
    | false =>
      have hev : rfEv ⟨id, ty, da, false, false⟩ = (id, ty, []) := by unfold rfEv; rw [if_neg (fun e => by cases e.1)]
      have hsum : sumE (id, ty, []) = id.length + ty.length := rfl
      by_cases hle : m < id.length + ty.length
      · have he : rfEnds m ⟨id, ty, da, false, false⟩ = (rfNew id, some (3, ([], [], []), 0)) := by unfold rfEnds; rw [hev, hsum, if_pos (.inr hle)]
        rw [he]
        exact ends_much A n c l m ⟨line.toArray⟩ ⟨id.toArray⟩ ⟨ty.toArray⟩ ⟨da.toArray⟩ any half w bi bt bd hm (by omega)
      · have he : rfEnds m ⟨id, ty, da, false, false⟩ = (rfNew id, none) := by unfold rfEnds; rw [hev, hsum, if_neg (fun e => e.elim (fun e => by cases e) hle), if_neg (fun e => by cases e)]
        rw [he]
        exact ends_none A n c l m ⟨line.toArray⟩ ⟨id.toArray⟩ ⟨ty.toArray⟩ ⟨da.toArray⟩ any half w bi bt bd hm (by omega)
theorem refLineP_any (A : Option Addr) (n c l m : Nat) (line : List UInt8) (any half : Bool) (r : RfS) (x : List UInt8 × Bool) (w : World) (hr : RfOk m r) (hm : m ≤ 65536) (hx : x.1.length ≤ 65536) :
    Calls Tryz.prog 33 #[.agg (rpC A n c l m line any half r), .agg #[.string ⟨x.1.toArray⟩, .bool x.2]] w fun e w' => e = .returned (.tuple #[.agg (rpC A n c l m line any half (rfLine m r x).1), .agg (sdC (sdO (rfLine m r x).2)), .bool (rfLine m r x).2.isSome]) ∧ Below w.heap.size w w' := by
  have hen := fun W => refEndsP_any A n c l m line any half r W hr hm
  obtain ⟨id, ty, da, so, lo⟩ := r
  obtain ⟨tx, tl⟩ := x
  obtain ⟨hi, ht, hd, hs⟩ := hr
  simp only at hi ht hd hs hx hen ⊢
  have zi := size_mk id
  have zt := size_mk ty
  have zd := size_mk da
  have bi : (⟨id.toArray⟩ : ByteArray).size ≤ 1000000 := by omega
  have bt : (⟨ty.toArray⟩ : ByteArray).size ≤ 1000000 := by omega
  have bd : (⟨da.toArray⟩ : ByteArray).size ≤ 1000000 := by omega
  cases tl with
  | true =>
    have he : rfLine m ⟨id, ty, da, so, lo⟩ (tx, true) = (⟨id, ty, da, so, true⟩, none) := by unfold rfLine; rw [if_pos rfl]
    rw [he]
    exact line_long A n c l m ⟨line.toArray⟩ ⟨id.toArray⟩ ⟨ty.toArray⟩ ⟨da.toArray⟩ ⟨tx.toArray⟩ any half so lo w bi bt bd hm
  | false =>
    have hfl := fieldF_len tx
    have hwf := fieldF_wf tx
    have hof := fun W => refOfF_any tx W (by omega)
    have hco := fun W => refCountsF_any (fieldF tx) W hwf (by omega) (by omega)
    have hre := fun W => refRetryF_any (fieldF tx) W hwf (by omega) (by omega)
    have hl0 : rfLine m ⟨id, ty, da, so, lo⟩ (tx, false) = if countsF (fieldF tx) = false then ((⟨id, ty, da, so, lo⟩ : RfS), none)
      else if (fieldF tx).1 = 1 then rfEnds m ⟨id, ty, da, so, lo⟩
      else if (fieldF tx).1 = 3 then (if lo = true ∨ m + 1 < da.length then (⟨id, ty, da, true, true⟩ : RfS) else ⟨id, ty, da ++ (fieldF tx).2.2 ++ [10], true, lo⟩, none)
      else if (fieldF tx).1 = 4 then (⟨id, (fieldF tx).2.2, da, so, lo⟩, none)
      else if (fieldF tx).1 = 5 then (⟨(fieldF tx).2.2, ty, da, so, lo⟩, none)
      else if (fieldF tx).1 = 6 then (⟨id, ty, da, so, lo⟩, .some (2, ([], [], []), (retryF (fieldF tx)).1))
      else (⟨id, ty, da, so, lo⟩, none) := by unfold rfLine; rw [if_neg (fun e => by cases e)]
    rw [hl0]
    clear hl0 hwf
    generalize fieldF tx = ff at hfl hof hco hre ⊢
    obtain ⟨fk, fn, fv⟩ := ff
    unfold fieldV at hco hre
    unfold Retr at hre
    simp only at hfl hof hco hre ⊢
    have zv := size_mk fv
    have bv : (⟨fv.toArray⟩ : ByteArray).size ≤ 1000000 := by omega
    generalize retryF (fk, fn, fv) = rt at hre ⊢
    cases hc : countsF (fk, fn, fv) with
    | false =>
      rw [if_pos rfl]
      rw [hc] at hco
      exact line_not A n c l m ⟨line.toArray⟩ ⟨id.toArray⟩ ⟨ty.toArray⟩ ⟨da.toArray⟩ ⟨tx.toArray⟩ any half so lo w bi bt bd hm fk ⟨fn.toArray⟩ ⟨fv.toArray⟩ bv hof hco
    | true =>
      rw [if_neg (fun e => by cases e)]
      rw [hc] at hco
      by_cases h1 : fk = 1
      · subst h1
        rw [if_pos rfl]
        have hnew : (rfEnds m ⟨id, ty, da, so, lo⟩).1 = rfNew id := rfl
        rw [hnew] at hen ⊢
        exact line_end A n c l m ⟨line.toArray⟩ ⟨id.toArray⟩ ⟨ty.toArray⟩ ⟨da.toArray⟩ ⟨tx.toArray⟩ any half so lo w bi bt bd hm ⟨fn.toArray⟩ ⟨fv.toArray⟩ bv hof hco _ _ _ _ _ _ hen
      · rw [if_neg h1]
        by_cases h3 : fk = 3
        · subst h3
          rw [if_pos rfl]
          cases lo with
          | true =>
            rw [if_pos (.inl rfl)]
            exact line_still A n c l m ⟨line.toArray⟩ ⟨id.toArray⟩ ⟨ty.toArray⟩ ⟨da.toArray⟩ ⟨tx.toArray⟩ any half so true w bi bt bd hm ⟨fn.toArray⟩ ⟨fv.toArray⟩ bv hof hco
          | false =>
            by_cases hle : m + 1 < da.length
            · rw [if_pos (.inr hle)]
              exact line_more A n c l m ⟨line.toArray⟩ ⟨id.toArray⟩ ⟨ty.toArray⟩ ⟨da.toArray⟩ ⟨tx.toArray⟩ any half so false w bi bt bd hm ⟨fn.toArray⟩ ⟨fv.toArray⟩ bv hof hco (by omega)
            · rw [if_neg (fun e => e.elim (fun e => by cases e) hle)]
              have h := line_data A n c l m ⟨line.toArray⟩ ⟨id.toArray⟩ ⟨ty.toArray⟩ ⟨da.toArray⟩ ⟨tx.toArray⟩ any half so false w bi bt bd hm ⟨fn.toArray⟩ ⟨fv.toArray⟩ bv hof hco (by omega)
              rw [cat_mk, cat_mk] at h
              exact h
        · rw [if_neg h3]
          by_cases h4 : fk = 4
          · subst h4
            rw [if_pos rfl]
            exact line_type A n c l m ⟨line.toArray⟩ ⟨id.toArray⟩ ⟨ty.toArray⟩ ⟨da.toArray⟩ ⟨tx.toArray⟩ any half so lo w bi bt bd hm ⟨fn.toArray⟩ ⟨fv.toArray⟩ bv hof hco
          · rw [if_neg h4]
            by_cases h5 : fk = 5
            · subst h5
              rw [if_pos rfl]
              exact line_id A n c l m ⟨line.toArray⟩ ⟨id.toArray⟩ ⟨ty.toArray⟩ ⟨da.toArray⟩ ⟨tx.toArray⟩ any half so lo w bi bt bd hm ⟨fn.toArray⟩ ⟨fv.toArray⟩ bv hof hco
            · rw [if_neg h5]
              by_cases h6 : fk = 6
              · subst h6
                rw [if_pos rfl]
                exact line_retry A n c l m ⟨line.toArray⟩ ⟨id.toArray⟩ ⟨ty.toArray⟩ ⟨da.toArray⟩ ⟨tx.toArray⟩ any half so lo w bi bt bd hm ⟨fn.toArray⟩ ⟨fv.toArray⟩ bv hof hco _ _ hre
              · rw [if_neg h6]
                exact line_other A n c l m ⟨line.toArray⟩ ⟨id.toArray⟩ ⟨ty.toArray⟩ ⟨da.toArray⟩ ⟨tx.toArray⟩ any half so lo w bi bt bd hm fk ⟨fn.toArray⟩ ⟨fv.toArray⟩ bv hof hco h1 h3 h4 h5 h6
end Go.Proofs.YtlcfpnegpihicaaGreatDoor

namespace Go.Proofs.YtlcfpnegpihicaaGreatDoor
open Go.RowKit Go.Shelf
attribute [local go_sem] Oper.semAt_some

/-! ## Pieces: the mathematics -/
theorem stepsP_sd {most line : Nat} (hm : most ≤ 65536) (hl : line ≤ 65536) : ∀ (fs : List FdT) (s : PrS), s.ok most line → s.last.length ≤ 1000000 → (∀ f ∈ fs, FldOk line f) → ∀ x ∈ (stepsP most s fs).2, SdOk x
  | [], _, _, _, _, x, hx => by simp [stepsP] at hx
  | f :: r, s, h, hll, hf, x, hx => by
    simp only [stepsP, List.mem_append] at hx
    rcases hx with hx | hx
    · exact (doP_said h hm hl hll (by simpa using hx)).1
    · exact stepsP_sd hm hl r _ (doP_ok h (hf f (by simp))) (doP_last (hf f (by simp)) hl hll) (fun g hg => hf g (by simp [hg])) x hx
/-! ## Lists of what is said, one behind another -/
theorem sdsC_split : ∀ (x : List Sd) (j : Nat) (u : Value), (sdsC x)[j]? = some u → ∃ i y, x[i]? = some y ∧ ((j = i * 5 ∧ u = .int .i64 y.1) ∨ (j = i * 5 + 1 ∧ u = .string ⟨y.2.1.1.toArray⟩) ∨ (j = i * 5 + 2 ∧ u = .string ⟨y.2.1.2.1.toArray⟩) ∨ (j = i * 5 + 3 ∧ u = .string ⟨y.2.1.2.2.toArray⟩) ∨ (j = i * 5 + 4 ∧ u = .int .u64 y.2.2))
  | [], j, u, h => by simp [sdsC] at h
  | y :: r, 0, u, h => by
    refine ⟨0, y, rfl, .inl ⟨rfl, ?_⟩⟩
    simpa [sdsC, sdC] using h.symm
  | y :: r, 1, u, h => by
    refine ⟨0, y, rfl, .inr (.inl ⟨rfl, ?_⟩)⟩
    simpa [sdsC, sdC] using h.symm
  | y :: r, 2, u, h => by
    refine ⟨0, y, rfl, .inr (.inr (.inl ⟨rfl, ?_⟩))⟩
    simpa [sdsC, sdC] using h.symm
  | y :: r, 3, u, h => by
    refine ⟨0, y, rfl, .inr (.inr (.inr (.inl ⟨rfl, ?_⟩)))⟩
    simpa [sdsC, sdC] using h.symm
  | y :: r, 4, u, h => by
    refine ⟨0, y, rfl, .inr (.inr (.inr (.inr ⟨rfl, ?_⟩)))⟩
    simpa [sdsC, sdC] using h.symm
  | y :: r, j + 5, u, h => by
    have h2 : (sdsC r)[j]? = some u := by simpa [sdsC, sdC] using h
    obtain ⟨i, z, hz, hc⟩ := sdsC_split r j u h2
    refine ⟨i + 1, z, by simpa using hz, ?_⟩
    rcases hc with ⟨e, hu⟩ | ⟨e, hu⟩ | ⟨e, hu⟩ | ⟨e, hu⟩ | ⟨e, hu⟩
    · exact .inl ⟨by omega, hu⟩
    · exact .inr (.inl ⟨by omega, hu⟩)
    · exact .inr (.inr (.inl ⟨by omega, hu⟩))
    · exact .inr (.inr (.inr (.inl ⟨by omega, hu⟩)))
    · exact .inr (.inr (.inr (.inr ⟨by omega, hu⟩)))
theorem sdsC_length : ∀ (l : List Sd), (sdsC l).length = l.length * 5
  | [] => rfl
  | _ :: r => by
    have := sdsC_length r
    show (sdsC r).length + 1 + 1 + 1 + 1 + 1 = _
    rw [this, List.length_cons]; omega
set_option maxRecDepth 100000 in
theorem run_append_sds {w : World} {n0 : Nat} {v : Value} {l : List Sd} (hv : Sds w n0 v l) (A : Option Addr) (x : List Sd) (c : Nat) (hx : SdAt w A x) (hs : l.length + x.length ≤ 1000000000) (hn : n0 ≤ w.heap.size) (ty : TypeId) :
    ∃ v' w', (Builtin.append_ #[24, 24] ty #[v, .slice A x.length c]).run Tryz.prog w = .ok v' w' ∧ Sds w' n0 v' (l ++ x) ∧ w.grownBy w' v.ownBlock := by
  obtain ⟨i, hi, hz, hz1, hz2⟩ := info_parts infoSaid
  have nothing : x = [] → ∃ v' w', (Builtin.append_ #[24, 24] ty #[v, .slice A x.length c]).run Tryz.prog w = .ok v' w' ∧ Sds w' n0 v' (l ++ x) ∧ w.grownBy w' v.ownBlock := by
    rintro rfl
    have hl : Sds w n0 v (l ++ []) := by rw [List.append_nil]; exact hv
    have hg : w.grownBy w v.ownBlock := ⟨rfl, rfl, rfl, Nat.le_refl _, fun _ _ _ => rfl⟩
    rcases hv.2 with ⟨rfl, h0⟩ | ⟨g, cap, cur, rfl, hb, hh, hnc, hcm, _⟩
    · refine ⟨_, w, ?_, hl, hg⟩
      cases A <;> simp [Builtin.append_, run_underlying Tryz.underlying24, sizeOf, typeInfo, hi, Builtin.lenOf, Builtin.firstCells]
      all_goals
        have h0 := run_loadCells_list (P := Tryz.prog) w ‹Addr› [] (by simp)
        simp only [List.length_nil] at h0
        simp [h0]
    · refine ⟨_, w, ?_, hl, hg⟩
      cases A <;> simp [Builtin.append_, run_underlying Tryz.underlying24, sizeOf, typeInfo, hi, Builtin.lenOf, Builtin.firstCells, hnc, storeCells]
      all_goals
        have h0 := run_loadCells_list (P := Tryz.prog) w ‹Addr› [] (by simp)
        simp only [List.length_nil] at h0
        simp [h0, storeCells]
  rcases Nat.eq_zero_or_pos x.length with h0 | h0
  · exact nothing (List.eq_nil_of_length_eq_zero h0)
  · obtain ⟨g, rfl, _, _⟩ := hx 0 x[0] (List.getElem?_eq_getElem h0)
    have hc : ∀ j u, (sdsC x)[j]? = some u → w.cell? ((⟨g, 0, none⟩ : Addr).add j) = some u := fun j u hu => by
      obtain ⟨i, y, hy, hh⟩ := sdsC_split x j u hu
      obtain ⟨g', he, _, h1, h2, h3, h4, h5⟩ := hx i y hy
      obtain rfl : g = g' := by injection he with he; injection he
      rw [add_zero_, Nat.zero_add]
      rcases hh with ⟨rfl, rfl⟩ | ⟨rfl, rfl⟩ | ⟨rfl, rfl⟩ | ⟨rfl, rfl⟩ | ⟨rfl, rfl⟩
      · exact h1
      · exact h2
      · exact h3
      · exact h4
      · exact h5
    obtain ⟨v', w', hrun, h2, h3, _, _⟩ := run_append_own_at (P := Tryz.prog) w n0 24 ty 40 i (.agg #[.int .i64 0, .string ⟨#[]⟩, .string ⟨#[]⟩, .string ⟨#[]⟩, .int .u64 0]) 5 64 Tryz.underlying24 hi hz hz1 hz2 rfl (by decide) v l.length (sdsC l) hv ⟨g, 0, none⟩ x.length c (sdsC x) (sdsC_length x) hc (sdsC_one x) (by simp only [maxLen]; omega) (by omega) hn
    refine ⟨v', w', hrun, ?_, h3⟩
    unfold Sds
    rw [List.length_append, sdsC_append]
    exact h2
theorem wpList_append_sds {w : World} {ops : Array Oper} {rest : List Oper} {o : Oper} {a : Act} {Q : Exit → Act → World → Prop} {n0 : Nat} {v : Value} {l : List Sd} (hgd : o.guard = none) (s x : Operand) (ho : o.op = .call { callee := .builtin .append, args := #[s, x], argTypes := #[24, 24] }) (hsv : a.eval s = v) (hv : Sds w n0 v l)
    (A : Option Addr) (y : List Sd) (m c : Nat) (hm : m = y.length) (hxv : a.eval x = .slice A m c) (hx : SdAt w A y) (hs : l.length + y.length ≤ 1000000000) (hn : n0 ≤ w.heap.size)
    (h : ∀ v' w', Sds w' n0 v' (l ++ y) → w.grownBy w' v.ownBlock → wpList Tryz.prog ops Q rest (a.put o.dst v') w') : wpList Tryz.prog ops Q (o :: rest) a w := by
  subst hm
  refine wpList_plain hgd fun K hK => ?_
  obtain ⟨v', w', hrun, h2, h3⟩ := run_append_sds hv A y c hx hs hn o.type
  unfold Oper.wp execOp
  simp only [ho, resolve, invoke, builtin, Sem.run_bind, Sem.run_pure, Result.andThen_ok, List.map_toArray, List.map_cons, List.map_nil, hsv, hxv, hrun]
  exact hK _ _ (h v' w' h2 h3)
/-! ## What a parser of a law's own waits for -/
end Go.Proofs.YtlcfpnegpihicaaGreatDoor
