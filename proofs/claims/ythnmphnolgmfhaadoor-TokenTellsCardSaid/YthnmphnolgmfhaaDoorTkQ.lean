import Derived.Test.YthnmphnolgmfhaaDoorTkP
namespace Go.Proofs.YthnmphnolgmfhaaDoor
open Go.RowKit
attribute [local go_sem] Oper.semAt_some

/-! ## Words, values, lists: the law -/
theorem commasL_wide (s : List UInt8) : (itemsL s).length ≤ s.length + 1 := by
  have h1 := itemsOf_len (partsG 44 s)
  have h2 := partsG_many 44 s
  rw [itemsL_of]
  omega
set_option maxRecDepth 100000 in
set_option maxHeartbeats 4000000 in
theorem tells_near (s t : List UInt8) (w : World) (hs : s.length ≤ 200) (ht : t.length ≤ 200) (hM : MaxT w) : Calls Tryd.prog 3 #[.string ⟨s.toArray⟩, .string ⟨t.toArray⟩] w (BoolR true w) := by
  unfold BoolR
  have hM' := Lib.hid hM
  have hsI : ¬ (200 : Int) < (s.length : Int) := by omega
  have htI : ¬ (200 : Int) < (t.length : Int) := by omega
  have h1 := Lib.hid (fun W => token_any s W (by omega))
  have h2 := Lib.hid (fun W => refToken_any s W (by omega))
  have h3 := Lib.hid (fun W => value_any s W (by omega))
  have h4 := Lib.hid (fun W => refValue_any s W (by omega))
  have h5 := Lib.hid (fun W => trim_any s W (by omega))
  have h6 := Lib.hid (fun W => refTrim_any s W (by omega))
  have h7 := Lib.hid (fun W => lower_any s W (by omega))
  have h8 := Lib.hid (fun W => refLower_any s W (by omega))
  have h9 := Lib.hid (fun W => same_any s t W (by omega) (by omega))
  have h10 := Lib.hid (fun W => refLower_any t W (by omega))
  have h11 := Lib.hid (fun W (hW : MaxT W) => items_any s W (by omega) hW)
  have h12 := Lib.hid (fun W => refItems_any s W (by omega))
  have hil : (itemsL s).length ≤ 1000000 := by have := commasL_wide s; omega
  unfold BoolR at h1 h3 h9
  unfold StrR at h5 h7 h8 h10
  unfold StrsR at h11 h12
  generalize tokenL s = b1 at *
  generalize valueL s = b2 at *
  generalize trimL s = s3 at *
  generalize lowerL s = s4 at *
  generalize lowerL t = s5 at *
  generalize itemsL s = its at *
  clear hM
  go_enter Tryd.func3, Tryd.ntmps3
  go_wp2_with (first
    | (go_at_call 7; (with_reducible refine Calls.mono (h1.out _) ?_); rintro e w1 ⟨rfl, hb1⟩; have hB1 := Lib.hid (hb1); clear hb1)
    | (go_at_call 8; (with_reducible refine Calls.mono (h2.out _) ?_); rintro e w91 ⟨rfl, hw91⟩; obtain rfl := hw91.symm)
    | (go_at_call 9; (with_reducible refine Calls.mono (h3.out _) ?_); rintro e w2 ⟨rfl, hb2⟩; have hB2 := Lib.hid (below_on hB1.out hb2); clear hb2)
    | (go_at_call 10; (with_reducible refine Calls.mono (h4.out _) ?_); rintro e w92 ⟨rfl, hw92⟩; obtain rfl := hw92.symm)
    | (go_at_call 11; (with_reducible refine Calls.mono (h5.out _) ?_); rintro e w3 ⟨rfl, hb3⟩; have hB3 := Lib.hid (below_on hB2.out hb3); clear hb3)
    | (go_at_call 12; (with_reducible refine Calls.mono (h6.out _) ?_); rintro e w93 ⟨rfl, hw93⟩; obtain rfl := hw93.symm)
    | (go_at_call 13; (with_reducible refine Calls.mono (h7.out _) ?_); rintro e w4 ⟨rfl, hb4⟩; have hB4 := Lib.hid (below_on hB3.out hb4); clear hb4)
    | (go_at_call 14; (with_reducible refine Calls.mono (h8.out w4) ?_); rintro e w5 ⟨rfl, hb5⟩; have hB5 := Lib.hid (below_on hB4.out hb5); clear hb5)
    | (go_at_call 15; (with_reducible refine Calls.mono (h9.out _) ?_); rintro e w6 ⟨rfl, hb6⟩; have hB6 := Lib.hid (below_on hB5.out hb6); clear hb6)
    | (go_at_call 14; (with_reducible refine Calls.mono (h8.out w6) ?_); rintro e w7 ⟨rfl, hb7⟩; have hB7 := Lib.hid (below_on hB6.out hb7); clear hb7)
    | (go_at_call 14; (with_reducible refine Calls.mono (h10.out _) ?_); rintro e w8 ⟨rfl, hb8⟩; have hB8 := Lib.hid (below_on hB7.out hb8); clear hb8)
    | (go_at_call 17; (with_reducible refine Calls.mono (h11.out _ (hM'.out.below hB8.out)) ?_); rintro e w9 ⟨v9, rfl, hv9, hb9⟩; obtain ⟨A9, c9, rfl, hs9⟩ := hv9.sl; have hB9 := Lib.hid (below_on hB8.out hb9); have hS9 := Lib.hid hs9; clear hb9 hs9 hv9)
    | (go_at_call 18; (with_reducible refine Calls.mono (h12.out _) ?_); rintro e w10 ⟨v10, rfl, hv10, hb10⟩; obtain ⟨A10, c10, rfl, hs10⟩ := hv10.sl; have hB10 := Lib.hid (below_on hB9.out hb10); have hS9b := Lib.hid (hS9.out.below hb10); have hS10 := Lib.hid hs10; clear hb10 hs10 hv10)
    | (go_at_call 16; (with_reducible refine Calls.mono (list_any A9 A10 c9 c10 its its _ hS9b.out hS10.out hil hil) ?_); rintro e w11 ⟨rfl, hb11⟩; have hB11 := Lib.hid (below_on hB10.out hb11); clear hb11)
    | (go_at_call 6; (with_reducible refine Calls.mono (works_any _ (hM'.out.below hB11.out)) ?_); rintro e w12 ⟨rfl, hb12⟩; have hB12 := Lib.hid (below_on hB11.out hb12); clear hb12))
  go_ret
  exact ⟨rfl, hB12.out⟩
set_option maxRecDepth 100000 in
theorem tells_far (s t : List UInt8) (w : World) (h : ¬ (s.length ≤ 200 ∧ t.length ≤ 200)) (hM : MaxT w) : Calls Tryd.prog 3 #[.string ⟨s.toArray⟩, .string ⟨t.toArray⟩] w (BoolR true w) := by
  unfold BoolR
  have hw := Lib.hid (works_any w hM)
  unfold BoolR at hw
  clear hM
  by_cases h1 : s.length ≤ 200
  · have hsI : ¬ (200 : Int) < (s.length : Int) := by omega
    have htI : (200 : Int) < (t.length : Int) := by omega
    clear h h1
    go_enter Tryd.func3, Tryd.ntmps3
    go_wp2_with (go_at_call 6; (with_reducible refine Calls.mono hw.out ?_); rintro e w1 ⟨rfl, hb1⟩)
    go_ret
    exact ⟨rfl, hb1⟩
  · have hsI : (200 : Int) < (s.length : Int) := by omega
    clear h h1
    go_enter Tryd.func3, Tryd.ntmps3
    go_wp2_with (go_at_call 6; (with_reducible refine Calls.mono hw.out ?_); rintro e w1 ⟨rfl, hb1⟩)
    go_ret
    exact ⟨rfl, hb1⟩
end Go.Proofs.YthnmphnolgmfhaaDoor
