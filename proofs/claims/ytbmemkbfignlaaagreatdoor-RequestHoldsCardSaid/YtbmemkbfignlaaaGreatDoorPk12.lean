import Derived.Test.YtbmemkbfignlaaaGreatDoorPk11
import Derived.Laws.EntriesVeiled
namespace Go.Proofs.YtbmemkbfignlaaaGreatDoor
open Go.RowKit Go.Shelf
attribute [local go_sem] Oper.semAt_some

/-! ## All that a text must be -/
/-- Either it is so, or it is given up by the error. -/
def MustR (b : Bool) (no : Int) (w : World) (e : Ending) (w' : World) : Prop := (e = if b = true then .returned (.tuple #[]) else gaveE no) ∧ Below w.heap.size w w'
set_option maxRecDepth 100000 in
theorem ofTarget_any (w : World) : Calls Tryz.prog 94 #[] w fun e w' => e = .returned (.agg #[.func (.func 130) #[] #[], .func (.func 132) #[] #[]]) ∧ Below w.heap.size w w' := by
  go_enter Tryz.func94, Tryz.ntmps94
  go_wp2
  have k := Has.new w 138 #[.func (.func 130) #[] #[], .func (.func 132) #[] #[]]
  have d0 := k.cell 0
  have d1 := k.cell 1
  simp at d0 d1
  refine bodyPost_ret (v := .agg #[.func (.func 130) #[] #[], .func (.func 132) #[] #[]]) ?_ rfl ⟨rfl, (Below.refl _ _).alloc (Nat.le_refl _) _⟩
  simp [results, Tryz.results94, go_sem, d0, d1]
set_option maxRecDepth 100000 in
set_option maxHeartbeats 2000000 in
theorem mustBeT_any (no : Int) (s : List UInt8) (hs : s.length ≤ 600000) (k : Nat) (w : World) (hk : Has w k 138 #[.func (.func 130) #[] #[], .func (.func 132) #[] #[]]) :
    Calls Tryz.prog 95 #[.int .i64 no, .string ⟨s.toArray⟩, .slice (some ⟨k, 0, none⟩) 2 2] w (MustR ((decide (s.head? = some 47)) && (s.all okB)) no w) := by
  have h1 := Lib.hid (fun W => headT_any s W)
  have h2 := Lib.hid (fun W => signsT_any s W hs)
  unfold BoolR at h1 h2
  generalize (decide (s.head? = some 47)) = b1 at *
  generalize (s.all okB) = b2 at *
  obtain ⟨b, hbb⟩ : ∃ b, (b1 && b2) = b := ⟨_, rfl⟩
  rw [hbb]
  have hbb' := Lib.hid hbb
  clear hbb
  have hk' := Lib.hid hk
  clear hk
  go_enter Tryz.func95, Tryz.ntmps95
  go_wp2
  go_loopw [7, 10] (fun _ y W => ∃ j : Nat, j ≤ 2 ∧ y = .int .i64 (j : Int) ∧ (1 ≤ j → b1 = true) ∧ (2 ≤ j → b2 = true) ∧ Below w.heap.size w W) (fun _ y _ => 2 - (intOf y).toNat)
  case atStart => exact ⟨0, by omega, rfl, by omega, by omega, Below.refl _ _⟩
  case round =>
    obtain ⟨j, hj, rfl, hb1, hb2, hB⟩ := hrel
    have hkr := hk'.out.below hB hk'.out.lt
    have hB' := Lib.hid hB
    have hz := Lib.hid hB.size
    have c0 := hkr.cell 0
    have c1 := hkr.cell 1
    simp at c0 c1
    clear hkr hB hk'
    rcases (by omega : j = 0 ∨ j = 1 ∨ j = 2) with rfl | rfl | rfl
    · cases b1
      · go_wp2_with (first
          | (go_at_call 130; (with_reducible refine Calls.mono (h1.out _) ?_); rintro e w3 ⟨rfl, hb3⟩; have hb3' := Lib.hid hb3; clear hb3)
          | (go_at_call 133; (with_reducible refine Calls.mono (must_no _ _) ?_); rintro e w7 ⟨rfl, hw7⟩; obtain rfl := hw7.symm))
        exact ⟨rfl, by rw [← hbb'.out]; rfl, hB'.out.trans (hb3'.out.mono hz.out)⟩
      · go_wp2_with (first
          | (go_at_call 130; (with_reducible refine Calls.mono (h1.out _) ?_); rintro e w3 ⟨rfl, hb3⟩; have hb3' := Lib.hid hb3; clear hb3)
          | (go_at_call 133; (with_reducible refine Calls.mono (must_yes _ _) ?_); rintro e w7 ⟨rfl, hw7⟩; obtain rfl := hw7.symm))
        exact ⟨⟨1, by omega, rfl, fun _ => by trivial, by omega, hB'.out.trans (hb3'.out.mono hz.out)⟩, by simp [intOf]⟩
    · have hb1' := Lib.hid (hb1 (by omega))
      clear hb1 hb2
      cases b2
      · go_wp2_with (first
          | (go_at_call 132; (with_reducible refine Calls.mono (h2.out _) ?_); rintro e w3 ⟨rfl, hb3⟩; have hb3' := Lib.hid hb3; clear hb3)
          | (go_at_call 133; (with_reducible refine Calls.mono (must_no _ _) ?_); rintro e w7 ⟨rfl, hw7⟩; obtain rfl := hw7.symm))
        exact ⟨rfl, by rw [← hbb'.out, hb1'.out]; rfl, hB'.out.trans (hb3'.out.mono hz.out)⟩
      · go_wp2_with (first
          | (go_at_call 132; (with_reducible refine Calls.mono (h2.out _) ?_); rintro e w3 ⟨rfl, hb3⟩; have hb3' := Lib.hid hb3; clear hb3)
          | (go_at_call 133; (with_reducible refine Calls.mono (must_yes _ _) ?_); rintro e w7 ⟨rfl, hw7⟩; obtain rfl := hw7.symm))
        exact ⟨⟨2, by omega, rfl, fun _ => hb1'.out, fun _ => by trivial, hB'.out.trans (hb3'.out.mono hz.out)⟩, by simp [intOf]⟩
    · have hb1' := Lib.hid (hb1 (by omega))
      have hb2' := Lib.hid (hb2 (by omega))
      clear hb1 hb2
      go_wp2
      go_end0
      exact ⟨by rw [← hbb'.out, hb1'.out, hb2'.out]; rfl, hB'.out⟩
set_option maxRecDepth 100000 in
theorem ofPart_any (w : World) : Calls Tryz.prog 136 #[] w fun e w' => e = .returned (.agg #[.func (.func 162) #[] #[], .func (.func 163) #[] #[]]) ∧ Below w.heap.size w w' := by
  go_enter Tryz.func136, Tryz.ntmps136
  go_wp2
  have k := Has.new w 138 #[.func (.func 162) #[] #[], .func (.func 163) #[] #[]]
  have d0 := k.cell 0
  have d1 := k.cell 1
  simp at d0 d1
  refine bodyPost_ret (v := .agg #[.func (.func 162) #[] #[], .func (.func 163) #[] #[]]) ?_ rfl ⟨rfl, (Below.refl _ _).alloc (Nat.le_refl _) _⟩
  simp [results, Tryz.results136, go_sem, d0, d1]
set_option maxRecDepth 100000 in
set_option maxHeartbeats 2000000 in
theorem mustBeP_any (no : Int) (s : List UInt8) (hs : s.length ≤ 600000) (k : Nat) (w : World) (hk : Has w k 138 #[.func (.func 162) #[] #[], .func (.func 163) #[] #[]]) :
    Calls Tryz.prog 95 #[.int .i64 no, .string ⟨s.toArray⟩, .slice (some ⟨k, 0, none⟩) 2 2] w (MustR ((decide (s ≠ [46]) && decide (s ≠ [46, 46])) && (!s.any badB)) no w) := by
  have h1 := Lib.hid (fun W => partDots_any s W)
  have h2 := Lib.hid (fun W => partSigns_any s W hs)
  unfold BoolR at h1 h2
  generalize (decide (s ≠ [46]) && decide (s ≠ [46, 46])) = b1 at *
  generalize (!s.any badB) = b2 at *
  obtain ⟨b, hbb⟩ : ∃ b, (b1 && b2) = b := ⟨_, rfl⟩
  rw [hbb]
  have hbb' := Lib.hid hbb
  clear hbb
  have hk' := Lib.hid hk
  clear hk
  go_enter Tryz.func95, Tryz.ntmps95
  go_wp2
  go_loopw [7, 10] (fun _ y W => ∃ j : Nat, j ≤ 2 ∧ y = .int .i64 (j : Int) ∧ (1 ≤ j → b1 = true) ∧ (2 ≤ j → b2 = true) ∧ Below w.heap.size w W) (fun _ y _ => 2 - (intOf y).toNat)
  case atStart => exact ⟨0, by omega, rfl, by omega, by omega, Below.refl _ _⟩
  case round =>
    obtain ⟨j, hj, rfl, hb1, hb2, hB⟩ := hrel
    have hkr := hk'.out.below hB hk'.out.lt
    have hB' := Lib.hid hB
    have hz := Lib.hid hB.size
    have c0 := hkr.cell 0
    have c1 := hkr.cell 1
    simp at c0 c1
    clear hkr hB hk'
    rcases (by omega : j = 0 ∨ j = 1 ∨ j = 2) with rfl | rfl | rfl
    · cases b1
      · go_wp2_with (first
          | (go_at_call 162; (with_reducible refine Calls.mono (h1.out _) ?_); rintro e w3 ⟨rfl, hb3⟩; have hb3' := Lib.hid hb3; clear hb3)
          | (go_at_call 133; (with_reducible refine Calls.mono (must_no _ _) ?_); rintro e w7 ⟨rfl, hw7⟩; obtain rfl := hw7.symm))
        exact ⟨rfl, by rw [← hbb'.out]; rfl, hB'.out.trans (hb3'.out.mono hz.out)⟩
      · go_wp2_with (first
          | (go_at_call 162; (with_reducible refine Calls.mono (h1.out _) ?_); rintro e w3 ⟨rfl, hb3⟩; have hb3' := Lib.hid hb3; clear hb3)
          | (go_at_call 133; (with_reducible refine Calls.mono (must_yes _ _) ?_); rintro e w7 ⟨rfl, hw7⟩; obtain rfl := hw7.symm))
        exact ⟨⟨1, by omega, rfl, fun _ => by trivial, by omega, hB'.out.trans (hb3'.out.mono hz.out)⟩, by simp [intOf]⟩
    · have hb1' := Lib.hid (hb1 (by omega))
      clear hb1 hb2
      cases b2
      · go_wp2_with (first
          | (go_at_call 163; (with_reducible refine Calls.mono (h2.out _) ?_); rintro e w3 ⟨rfl, hb3⟩; have hb3' := Lib.hid hb3; clear hb3)
          | (go_at_call 133; (with_reducible refine Calls.mono (must_no _ _) ?_); rintro e w7 ⟨rfl, hw7⟩; obtain rfl := hw7.symm))
        exact ⟨rfl, by rw [← hbb'.out, hb1'.out]; rfl, hB'.out.trans (hb3'.out.mono hz.out)⟩
      · go_wp2_with (first
          | (go_at_call 163; (with_reducible refine Calls.mono (h2.out _) ?_); rintro e w3 ⟨rfl, hb3⟩; have hb3' := Lib.hid hb3; clear hb3)
          | (go_at_call 133; (with_reducible refine Calls.mono (must_yes _ _) ?_); rintro e w7 ⟨rfl, hw7⟩; obtain rfl := hw7.symm))
        exact ⟨⟨2, by omega, rfl, fun _ => hb1'.out, fun _ => by trivial, hB'.out.trans (hb3'.out.mono hz.out)⟩, by simp [intOf]⟩
    · have hb1' := Lib.hid (hb1 (by omega))
      have hb2' := Lib.hid (hb2 (by omega))
      clear hb1 hb2
      go_wp2
      go_end0
      exact ⟨by rw [← hbb'.out, hb1'.out, hb2'.out]; rfl, hB'.out⟩
end Go.Proofs.YtbmemkbfignlaaaGreatDoor
