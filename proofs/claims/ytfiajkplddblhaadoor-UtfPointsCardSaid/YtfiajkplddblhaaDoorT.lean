import Derived.Test.YtfiajkplddblhaaDoorQ
import Derived.Deep.RegionHeld3
namespace Go.Proofs.YtfiajkplddblhaaDoor
open Go.RowKit Go.Shelf

/-! ## The law of a point's bytes -/
theorem refPoint_no (n : Int) (w : World) (h : kPt n = 9) : Calls Tryd.prog 14 #[.int .i64 n] w fun e w' => e = .returned (.bool false) ∧ w = w' := by
  refine (refPoint_any n w).mono ?_
  rintro e w' ⟨rfl, rfl⟩
  exact ⟨ret_bool (by simp [h]), rfl⟩
theorem refPoint_yes (n : Int) (w : World) (h : kPt n < 9) : Calls Tryd.prog 14 #[.int .i64 n] w fun e w' => e = .returned (.bool true) ∧ w = w' := by
  refine (refPoint_any n w).mono ?_
  rintro e w' ⟨rfl, rfl⟩
  exact ⟨ret_bool (by rw [decide_eq_true (by omega)]), rfl⟩
set_option maxRecDepth 100000 in
theorem points_no (z : Int) (w : World) (hT : Tab w) (h : kPt z = 9) : Calls Tryd.prog 4 #[.int .i64 z] w fun e w' => e = .returned (.bool true) ∧ Below w.heap.size w w' := by
  have hu := Lib.hid (uBytes_none z w hT h)
  have hp := Lib.hid (fun W => refPoint_no z W h)
  have hw := Lib.hid (fun W (hb : Below w.heap.size w W) => works_any W (hT.below hb))
  clear hT h
  go_enter Tryd.func4, Tryd.ntmps4
  go_wp2_with (first
    | (go_at_call 13; refine hu.out.mono ?_; rintro e w2 ⟨rfl, hb2⟩)
    | (go_at_call 14; refine (hp.out _).mono ?_; rintro e w3 ⟨rfl, rfl⟩)
    | (go_at_call 8; refine (hw.out _ hb2).mono ?_; rintro e w4 ⟨rfl, hb4⟩))
  go_ret
  exact ⟨rfl, hb2.trans (hb4.mono hb2.size)⟩
theorem sound_yes (s : ByteArray) (w : World) (hm : s.size ≤ 9223372036854775807) (hT : Tab w) (h : SoundL s.data.toList) : Calls Tryd.prog 11 #[.string s] w fun e w' => e = .returned (.bool true) ∧ Below w.heap.size w w' := by
  refine (sound_any s w hm hT).mono ?_
  rintro e w' ⟨rfl, hb⟩
  exact ⟨ret_bool (by unfold soundB; rw [decide_eq_true h]), hb⟩
theorem isPt_k {p : Nat} (h : kPt (p : Int) < 9) : isPt p := by
  have := kPt_row (p : Int)
  unfold isPt
  omega
set_option maxRecDepth 100000 in
set_option maxHeartbeats 4000000 in
theorem points_yes (z : Int) (p : Nat) (w : World) (hT : Tab w) (hz : z = p) (h : kPt z < 9) : Calls Tryd.prog 4 #[.int .i64 z] w fun e w' => e = .returned (.bool true) ∧ Below w.heap.size w w' := by
  have hu := Lib.hid (uBytes_any z p w hT hz h)
  have hp := Lib.hid (fun W => refPoint_yes z W h)
  have hpt : isPt p := by subst hz; exact isPt_k h
  have hr := Lib.hid (fun W => refBytes_any z p W hz hpt)
  have hso := Lib.hid (pt_sound hpt)
  have hlp := (ptB_at (hz ▸ rfl : kPt (p : Int) = kPt z) h).1
  have hlm := (ptB_at (hz ▸ rfl : kPt (p : Int) = kPt z) h).2.2.1
  have hlp' := Lib.hid (show (ptB p).length ≤ 4 by omega)
  have hT' := Lib.hid hT
  clear hT h hpt hz hlp hlm
  go_enter Tryd.func4, Tryd.ntmps4
  go_wp2_with (first
    | (go_at_call 13; refine hu.out.mono ?_; rintro e w2 ⟨A, c, rfl, hr2, hb2⟩)
    | (go_at_call 14; refine (hp.out _).mono ?_; rintro e w3 ⟨rfl, rfl⟩))
  have hcv : ∀ W, Below w2.heap.size w2 W → (convert 22 9 (.slice A (ptB p).length c)).run Tryd.prog W = .ok (.string ⟨(ptB p).toArray⟩) W := fun W hb => (hr2.kept (Kept.below hb (fun b hb => hb.2))).text (P := Tryd.prog) 22 9 5 c Tryd.underlying22 Tryd.underlying5 Tryd.underlying9
  have s2 := hcv _ (Below.refl _ _)
  have s2d := hcv _ ((Below.refl w2.heap.size w2).drew)
  have hcv' := Lib.hid hcv
  have hb2' := Lib.hid hb2
  have hT2 := Lib.hid (hT'.out.below hb2)
  clear hcv hr2 hb2
  go_region_with
    (first
    | (go_at_call 15; refine (hr.out _).mono ?_; rintro e w5 ⟨v, rfl, hv5, hb5d⟩; have hb5 : Below w2.heap.size w2 w5 := ((Below.refl w2.heap.size w2).drew).trans hb5d; obtain ⟨A5, c5, rfl, hr5⟩ := hv5.shape; have s5 := hcv'.out _ hb5; have q5 := hr5.text (P := Tryd.prog) 22 9 5 c5 Tryd.underlying22 Tryd.underlying5 Tryd.underlying9)
    | (go_at_call 11; refine (sound_yes ⟨(ptB p).toArray⟩ _ (by have := hlp'.out; simp [ByteArray.size]; omega) (hT2.out.below hb5) hso.out).mono ?_; rintro e w6 ⟨rfl, hb6⟩; have s6 := hcv'.out _ (hb5.trans (hb6.mono hb5.size)))
    | (go_at_call 8; refine (works_any _ (hT2.out.below (hb5.trans (hb6.mono hb5.size)))).mono ?_; rintro e w7 ⟨rfl, hb7⟩; have s7 := hcv'.out _ ((hb5.trans (hb6.mono hb5.size)).trans (hb7.mono (hb5.trans (hb6.mono hb5.size)).size))))
  all_goals
    have hb57 := hb5.trans (hb6.mono hb5.size)
    have hb2f := hb2'.out
    have hb7f := hb2f.trans ((hb57.trans (hb7.mono hb57.size)).mono hb2f.size)
    go_wp2
    go_ret
    exact ⟨rfl, hb7f⟩
theorem lawPoints (z : Int) (w : World) (hT : Tab w) : Calls Tryd.prog 4 #[.int .i64 z] w fun e w' => e = .returned (.bool true) ∧ Below w.heap.size w w' := by
  by_cases h : kPt z = 9
  · exact points_no z w hT h
  · have h9 : kPt z < 9 := by have := kPt_le z; omega
    obtain ⟨p, hp⟩ := Int.eq_ofNat_of_zero_le (show 0 ≤ z by have := kPt_row z; omega)
    exact points_yes z p w hT hp h9
end Go.Proofs.YtfiajkplddblhaaDoor
