import Derived.Test.YthnmphnolgmfhaaDoorTkP
namespace Go.Proofs.YthnmphnolgmfhaaDoor
open Go.RowKit
attribute [local go_sem] Oper.semAt_some

/-! ## Quoted texts: the law -/
set_option maxRecDepth 100000 in
set_option maxHeartbeats 4000000 in
theorem quotes_near (s : List UInt8) (w : World) (hs : s.length ≤ 200) (hM : MaxT w) : Calls Tryd.prog 4 #[.string ⟨s.toArray⟩] w (BoolR true w) := by
  unfold BoolR
  have hM' := Lib.hid hM
  have hsI : ¬ (200 : Int) < (s.length : Int) := by omega
  have h1 := Lib.hid (fun W => quoted_any s W (by omega))
  have h2 := Lib.hid (fun W => refQuoted_any s W (by omega))
  unfold QuotR quoteV at h1 h2
  generalize (quotedL s).getD [] = q at *
  generalize (if (quotedL s).isSome then (0 : Int) else 110) = z at *
  clear hM
  go_enter Tryd.func4, Tryd.ntmps4
  go_wp2_with (first
    | (go_at_call 19; (with_reducible refine Calls.mono (h1.out _) ?_); rintro e w1 ⟨rfl, hb1⟩; have hB1 := Lib.hid hb1; clear hb1)
    | (go_at_call 20; (with_reducible refine Calls.mono (h2.out _) ?_); rintro e w2 ⟨rfl, hb2⟩; have hB2 := Lib.hid (below_on hB1.out hb2); clear hb2)
    | (go_at_call 21; (with_reducible refine Calls.mono (num_any _ _) ?_); rintro e w11 ⟨rfl, hw11⟩; obtain rfl := hw11.symm)
    | (go_at_call 6; (with_reducible refine Calls.mono (works_any _ (hM'.out.below hB2.out)) ?_); rintro e w12 ⟨rfl, hb12⟩; have hB12 := Lib.hid (below_on hB2.out hb12); clear hb12))
  go_ret
  exact ⟨rfl, hB12.out⟩
set_option maxRecDepth 100000 in
theorem quotes_far (s : List UInt8) (w : World) (h : ¬ s.length ≤ 200) (hM : MaxT w) : Calls Tryd.prog 4 #[.string ⟨s.toArray⟩] w (BoolR true w) := by
  unfold BoolR
  have hw := Lib.hid (works_any w hM)
  unfold BoolR at hw
  clear hM
  have hsI : (200 : Int) < (s.length : Int) := by omega
  clear h
  go_enter Tryd.func4, Tryd.ntmps4
  go_wp2_with (go_at_call 6; (with_reducible refine Calls.mono hw.out ?_); rintro e w1 ⟨rfl, hb1⟩)
  go_ret
  exact ⟨rfl, hb1⟩
end Go.Proofs.YthnmphnolgmfhaaDoor
