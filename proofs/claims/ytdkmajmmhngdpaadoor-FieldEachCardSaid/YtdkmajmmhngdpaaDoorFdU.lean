import Derived.Test.YtdkmajmmhngdpaaDoorFdT
namespace Go.Proofs.YtdkmajmmhngdpaaDoor
open Go.RowKit Go.Maps

/-! ## The document's Counts -/
theorem retry_at (ki : Int) (nm vl : List UInt8) (w0 w : World) (hb : Below w0.heap.size w0 w) (hwf : (Lit.int .i64 ki).wf = true) (h1 : nm.length ≤ 400000) (h2 : vl.length ≤ 400000) (n : Int) (b : Bool) (hr : retryF (ki, nm, vl) = (n, b)) : Calls Tryd.prog 27 #[.agg #[.int .i64 ki, .string ⟨nm.toArray⟩, .string ⟨vl.toArray⟩]] w fun e w' => e = .returned (.tuple #[.int .u64 n, .bool b]) ∧ Below w.heap.size w w' ∧ Below w0.heap.size w0 w' := by
  refine (refRetryF_any (ki, nm, vl) w hwf h1 h2).mono ?_
  rintro e w' ⟨rfl, h⟩
  rw [hr]
  exact ⟨rfl, h, hb.trans (h.mono hb.size)⟩
set_option maxRecDepth 100000 in
theorem refCountsF_any (f : Int × List UInt8 × List UInt8) (w : World) (hwf : (Lit.int .i64 f.1).wf = true) (h1 : f.2.1.length ≤ 400000) (h2 : f.2.2.length ≤ 400000) :
    Calls Tryd.prog 30 #[fieldV f] w fun e w' => e = .returned (.bool (countsF f)) ∧ Below w.heap.size w w' := by
  obtain ⟨ki, nm, vl⟩ := f
  simp only at hwf h1 h2
  unfold fieldV
  simp only
  have hb0 : Below w.heap.size w (w.alloc (.cells #[.int .i64 ki, .string ⟨nm.toArray⟩, .string ⟨vl.toArray⟩] 37)) := (Below.refl _ _).alloc (Nat.le_refl _) _
  have hc := right_at ki nm vl w (w.alloc (.cells #[.int .i64 ki, .string ⟨nm.toArray⟩, .string ⟨vl.toArray⟩] 37)) hb0 hwf h1 h2
  have kR := Lib.hid (Has.new w 37 #[.int .i64 ki, .string ⟨nm.toArray⟩, .string ⟨vl.toArray⟩])
  have hcf : countsF (ki, nm, vl) = (sayF (ki, nm, vl) && (if ki = 5 then !hasNought vl else if ki = 6 then digitsOk vl else true)) := rfl
  have hrf : retryF (ki, nm, vl) = if sayF (ki, nm, vl) = true ∧ ki = 6 then ((numR 10 vl).1, digitsOk vl) else (0, false) := rfl
  clear hb0
  cases hs : sayF (ki, nm, vl) with
  | false =>
    rw [hs] at hc hcf
    rw [Bool.false_and] at hcf
    rw [hcf]
    have hc' := Lib.hid hc
    clear hcf hrf hc hs
    go_enter Tryd.func30, Tryd.ntmps30
    go_wp2_with ((go_at_call 35; (with_reducible refine Calls.mono hc'.out ?_); rintro e w2 ⟨rfl, hb2, hb3⟩))
    go_ret
    exact ⟨rfl, hb3⟩
  | true =>
    rw [hs] at hc hcf hrf
    rw [Bool.true_and] at hcf
    have hc' := Lib.hid hc
    clear hc hs
    by_cases k5 : ki = 5
    · subst k5
      rw [if_pos rfl] at hcf
      rw [if_neg (fun e => absurd e.2 (by decide))] at hrf
      have hrt := Lib.hid (fun W hb => retry_at 5 nm vl w W hb hwf h1 h2 0 false hrf)
      have hcf' := Lib.hid hcf
      clear hrf hcf
      go_enter Tryd.func30, Tryd.ntmps30
      go_wp2_with ((go_at_call 35; (with_reducible refine Calls.mono hc'.out ?_); rintro e w2 ⟨rfl, hb2, hb3⟩; have x0 := (kR.out.below hb2 kR.out.lt).cell 0; have x1 := (kR.out.below hb2 kR.out.lt).cell 1; have x2 := (kR.out.below hb2 kR.out.lt).cell 2; have kR2 := Lib.hid (kR.out.below hb2 kR.out.lt); have hb3' := Lib.hid hb3; clear hb2 hb3))
      go_loopw [3] (fun v W => ∃ k : Nat, v = .int .i64 (k : Int) ∧ k ≤ vl.length ∧ (0 : UInt8) ∉ vl.take k ∧ W = w2) (fun v _ => vl.length - (intOf v).toNat)
      case atStart => exact ⟨0, rfl, Nat.zero_le _, by simp, rfl⟩
      case round =>
        obtain ⟨k, rfl, hk, hno, rfl⟩ := hrel
        have hno' := Lib.hid hno
        clear hno
        by_cases hlt : k < vl.length
        · have hltI : (k : Int) < (vl.length : Int) := by omega
          by_cases hz : vl[k] = 0
          · have hne : ((((⟨vl.toArray⟩ : ByteArray)[k]'hlt).toNat : Int) == 0) = true := by
              rw [byte_at vl k hlt, hz]; rfl
            have hres := Lib.hid (hasNought_yes (l := vl) (hz ▸ List.getElem_mem hlt))
            clear hz
            go_wp2_with fail
            go_ret
            exact ⟨by rw [hcf'.out, hres.out]; rfl, hb3'.out⟩
          · have hne : ((((⟨vl.toArray⟩ : ByteArray)[k]'hlt).toNat : Int) == 0) = false := by
              rw [byte_at vl k hlt, beq_eq_false_iff_ne]
              intro e
              exact hz (UInt8.toNat_inj.1 (show (vl[k]).toNat = 0 by omega))
            have hno2 := Lib.hid (show (0 : UInt8) ∉ vl.take (k + 1) by
              rw [List.take_succ_eq_append_getElem hlt, List.mem_append, not_or]
              exact ⟨hno'.out, by simpa using fun e => hz e.symm⟩)
            clear hz
            go_wp2_with fail
            exact ⟨⟨k + 1, by go_num, by omega, hno2.out, trivial⟩, by simp [intOf]; omega⟩
        · obtain rfl : k = vl.length := by omega
          have hres := Lib.hid (hasNought_no (l := vl) (by have := hno'.out; rwa [List.take_length] at this))
          go_wp2_with ((go_at_call 27; (with_reducible refine Calls.mono (hrt.out _ hb3'.out) ?_); rintro e w4 ⟨rfl, hb4, hb5⟩; have y0 := (kR2.out.below hb4 kR2.out.lt).cell 0; have hb5' := Lib.hid hb5; clear hb4 hb5))
          go_ret
          exact ⟨by rw [hcf'.out, hres.out]; rfl, hb5'.out⟩
    · rw [if_neg k5] at hcf
      by_cases k6 : ki = 6
      · subst k6
        rw [if_pos rfl] at hcf
        rw [if_pos ⟨rfl, rfl⟩] at hrf
        rw [hcf]
        have hrt := Lib.hid (fun W hb => retry_at 6 nm vl w W hb hwf h1 h2 _ _ hrf)
        clear hrf hcf
        generalize (numR 10 vl).1 = n at hrt
        generalize digitsOk vl = b at hrt ⊢
        go_enter Tryd.func30, Tryd.ntmps30
        go_wp2_with (first
          | (go_at_call 35; (with_reducible refine Calls.mono hc'.out ?_); rintro e w2 ⟨rfl, hb2, hb3⟩; have x0 := (kR.out.below hb2 kR.out.lt).cell 0; have x1 := (kR.out.below hb2 kR.out.lt).cell 1; have x2 := (kR.out.below hb2 kR.out.lt).cell 2; have kR2 := Lib.hid (kR.out.below hb2 kR.out.lt); have hb3' := Lib.hid hb3; clear hb2 hb3)
          | (go_at_call 27; (with_reducible refine Calls.mono (hrt.out _ hb3'.out) ?_); rintro e w4 ⟨rfl, hb4, hb5⟩; have y0 := (kR2.out.below hb4 kR2.out.lt).cell 0; have hb5' := Lib.hid hb5; clear hb4 hb5))
        go_ret
        exact ⟨rfl, hb5'.out⟩
      · rw [if_neg k6] at hcf
        rw [if_neg (fun e => k6 e.2)] at hrf
        rw [hcf]
        have hrt := Lib.hid (fun W hb => retry_at ki nm vl w W hb hwf h1 h2 _ _ hrf)
        clear hrf hcf
        go_enter Tryd.func30, Tryd.ntmps30
        go_wp2_with (first
          | (go_at_call 35; (with_reducible refine Calls.mono hc'.out ?_); rintro e w2 ⟨rfl, hb2, hb3⟩; have x0 := (kR.out.below hb2 kR.out.lt).cell 0; have x1 := (kR.out.below hb2 kR.out.lt).cell 1; have x2 := (kR.out.below hb2 kR.out.lt).cell 2; have kR2 := Lib.hid (kR.out.below hb2 kR.out.lt); have hb3' := Lib.hid hb3; clear hb2 hb3)
          | (go_at_call 27; (with_reducible refine Calls.mono (hrt.out _ hb3'.out) ?_); rintro e w4 ⟨rfl, hb4, hb5⟩; have y0 := (kR2.out.below hb4 kR2.out.lt).cell 0; have hb5' := Lib.hid hb5; clear hb4 hb5))
        go_ret
        exact ⟨rfl, hb5'.out⟩
end Go.Proofs.YtdkmajmmhngdpaaDoor
