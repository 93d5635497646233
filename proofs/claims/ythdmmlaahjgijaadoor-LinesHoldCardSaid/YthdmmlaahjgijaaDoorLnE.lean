import Derived.Test.YthdmmlaahjgijaaDoorLnD
namespace Go.Proofs.YthdmmlaahjgijaaDoor
open Go.RowKit Go.Shelf

/-! ## The mark, left out -/
def markB (t : List UInt8) : Bool := decide (t.take 3 = [239, 187, 191])
def trimL (t : List UInt8) : List UInt8 := if markB t = true then t.drop 3 else t
theorem extract_three (s : ByteArray) : (s.extract 0 3).toList = s.data.toList.take 3 := by
  rw [ByteArray.toList_eq, ByteArray.data_extract, Array.toList_extract]
  simp
theorem markB_len {t : List UInt8} (h : markB t = true) : 3 ≤ t.length := by
  unfold markB at h
  have h := of_decide_eq_true h
  have := congrArg List.length h
  rw [List.length_take] at this
  simp at this
  omega
theorem hasPrefix_any (s : ByteArray) (w : World) : Calls Tryd.prog 80 #[.string s, .string ⟨#[239, 187, 191]⟩] w fun e w' => e = .returned (.bool (markB s.data.toList)) ∧ w = w' := by
  have hsl : s.data.toList.length = s.size := by simp only [Array.length_toList]; rfl
  by_cases h : 3 ≤ s.size
  · have hi : (3 : Int) ≤ (s.size : Int) := by omega
    go_enter Tryd.func80, Tryd.ntmps80
    go_wp2
    go_ret
    refine ⟨ret_bool ?_, rfl⟩
    rw [extract_three]
    unfold markB
    rw [Bool.eq_iff_iff, beq_iff_eq, decide_eq_true_iff]
  · have hi : (s.size : Int) < 3 := by omega
    have hf : markB s.data.toList = false := by
      cases hb : markB s.data.toList with
      | false => rfl
      | true => have := markB_len hb; omega
    rw [hf]
    clear hsl hf
    go_enter Tryd.func80, Tryd.ntmps80
    go_wp2
    go_ret
    exact ⟨rfl, rfl⟩
theorem litePrefix_any (s : ByteArray) (w : World) (hm : s.size ≤ 9223372036854775807) : Calls Tryd.prog 79 #[.string s, .string ⟨#[239, 187, 191]⟩] w fun e w' => e = .returned (.string ⟨(trimL s.data.toList).toArray⟩) ∧ w = w' := by
  have hsl : s.data.toList.length = s.size := by simp only [Array.length_toList]; rfl
  have hp := hasPrefix_any s w
  unfold trimL
  cases hb : markB s.data.toList with
  | true =>
    have h3 := markB_len hb
    have hi : (3 : Int) ≤ (s.size : Int) := by omega
    rw [hb] at hp
    have hp' := Lib.hid hp
    have hx := Lib.hid (extract_to_end s 3)
    clear hp hb hsl h3
    go_enter Tryd.func79, Tryd.ntmps79
    go_wp2_with (go_at_call 80; (with_reducible refine Calls.mono hp'.out ?_); rintro e w2 ⟨rfl, rfl⟩)
    go_ret
    refine ⟨?_, rfl⟩
    show Ending.returned (.string (s.extract 3 s.size)) = _
    rw [← hx.out]
  | false =>
    rw [hb] at hp
    have hp' := Lib.hid hp
    clear hp hb hsl
    go_enter Tryd.func79, Tryd.ntmps79
    go_wp2_with (go_at_call 80; (with_reducible refine Calls.mono hp'.out ?_); rintro e w2 ⟨rfl, rfl⟩)
    go_ret
    exact ⟨by simp, rfl⟩
theorem trimPrefix_any (s : ByteArray) (w : World) (hm : s.size ≤ 9223372036854775807) : Calls Tryd.prog 75 #[.string s, .string ⟨#[239, 187, 191]⟩] w fun e w' => e = .returned (.string ⟨(trimL s.data.toList).toArray⟩) ∧ w = w' := by
  have hp := Lib.hid (litePrefix_any s w hm)
  go_enter Tryd.func75, Tryd.ntmps75
  go_wp2_with (go_at_call 79; (with_reducible refine Calls.mono hp.out ?_); rintro e w2 ⟨rfl, rfl⟩)
  go_ret
  exact ⟨rfl, rfl⟩
end Go.Proofs.YthdmmlaahjgijaaDoor
