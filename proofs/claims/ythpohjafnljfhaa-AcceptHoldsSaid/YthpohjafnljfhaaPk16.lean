import Derived.Test.YthpohjafnljfhaaPk14
import Derived.Test.YthpohjafnljfhaaPk15
import Derived.Test.YthpohjafnljfhaaPk10
import Derived.WalkSpells
import Derived.WalkLawsBesides
namespace Go.Proofs.Ythpohjafnljfhaa
open Go.RowKit
attribute [local go_sem] Oper.semAt_some

/-! ## Bytes' classes -/
def byV (b : UInt8) : Value := .int .u8 (b.toNat : Int)
/-- A call that tells a byte's class, and leaves memory as it was. -/
def Tells (f : Nat) (p : UInt8 → Bool) : Prop := ∀ (b : UInt8) (w : World), Calls Try.prog f #[byV b] w fun e w' => e = .returned (.bool (p b)) ∧ w' = w
theorem ret_b {a b : Bool} (h : a = b) : Ending.returned (.bool a) = .returned (.bool b) := by rw [h]
theorem nle (a : UInt8) (b : UInt8) : (decide (a ≤ b)) = decide ((a.toNat : Int) ≤ (b.toNat : Int)) := by
  rw [decide_eq_decide, UInt8.le_iff_toNat_le]; omega
theorem neq8 (a : UInt8) (b : UInt8) : (a == b) = decide ((a.toNat : Int) = (b.toNat : Int)) := by
  by_cases h : a = b
  · subst h; simp
  · have : ¬ a.toNat = b.toNat := fun e => h (UInt8.toNat_inj.1 e)
    have h2 : ¬ (a.toNat : Int) = (b.toNat : Int) := by omega
    simp [h, h2]
theorem blkB_int (b : UInt8) : blkB b = (decide ((b.toNat : Int) = 9) || decide ((b.toNat : Int) = 32)) := by
  unfold blkB; rw [neq8, neq8]; rfl
theorem valB_int (b : UInt8) : valB b = (decide ((b.toNat : Int) = 9) || (decide (32 ≤ (b.toNat : Int)) && decide ((b.toNat : Int) ≤ 126)) || decide (128 ≤ (b.toNat : Int))) := by
  unfold valB; rw [neq8, nle, nle, nle]; rfl
theorem tokB_int (b : UInt8) : tokB b = ((decide (97 ≤ (b.toNat : Int)) && decide ((b.toNat : Int) ≤ 122) || decide (65 ≤ (b.toNat : Int)) && decide ((b.toNat : Int) ≤ 90)) || (decide (48 ≤ (b.toNat : Int)) && decide ((b.toNat : Int) ≤ 57)) || signsL.contains b) := by
  unfold tokB; rw [nle, nle, nle, nle, nle, nle]; rfl
theorem blank_any (b : UInt8) (w : World) : Calls Try.prog 44 #[byV b] w fun e w' => e = .returned (.bool (blkB b)) ∧ w' = w := by
  rw [blkB_int]
  unfold byV
  generalize (b.toNat : Int) = x
  by_cases h1 : x = 9 <;> by_cases h2 : x = 32 <;>
  · go_enter Try.func44, Try.ntmps44
    go_wp2
    go_ret
    exact ⟨by simp [h1, h2], rfl⟩
theorem val_any (b : UInt8) (w : World) : Calls Try.prog 43 #[byV b] w fun e w' => e = .returned (.bool (valB b)) ∧ w' = w := by
  rw [valB_int]
  unfold byV
  generalize (b.toNat : Int) = x
  by_cases h1 : x = 9 <;> by_cases h2 : 32 ≤ x <;> by_cases h3 : x ≤ 126 <;> by_cases h4 : 128 ≤ x <;>
  first
  | (exfalso; omega)
  | (go_enter Try.func43, Try.ntmps43
     go_wp2
     go_ret
     exact ⟨ret_b (by first | rfl | (rw [Bool.eq_iff_iff]; simp <;> omega)), rfl⟩)
/-- How a byte's class is worked out: letters, digits, and else the signs. -/
theorem ib_no (c : UInt8) : ∀ (l : List UInt8), l.contains c = false → Lib.indexByte l c = -1
  | [], _ => rfl
  | b :: r, h => by
    simp only [List.contains_cons, Bool.or_eq_false_iff, beq_eq_false_iff_ne] at h
    have hb : ¬ b = c := fun e => h.1 e.symm
    simp [Lib.indexByte, hb, ib_no c r h.2]
theorem ib_yes (c : UInt8) : ∀ (l : List UInt8), l.contains c = true → 0 ≤ Lib.indexByte l c
  | [], h => absurd h (by simp)
  | b :: r, h => by
    by_cases hb : b = c
    · simp [Lib.indexByte, hb]
    · have hr : r.contains c = true := by
        rw [List.contains_cons, Bool.or_eq_true] at h
        rcases h with e | e
        · exact absurd (beq_iff_eq.1 e).symm hb
        · exact e
      have := ib_yes c r hr
      simp only [Lib.indexByte, beq_iff_eq, hb, if_false]
      split <;> omega
set_option maxHeartbeats 2000000 in
theorem tok_any (b : UInt8) (w : World) : Calls Try.prog 41 #[byV b] w fun e w' => e = .returned (.bool (tokB b)) ∧ w' = w := by
  have hib := Try.strings_IndexByte ⟨#[33, 35, 36, 37, 38, 39, 42, 43, 45, 46, 94, 95, 96, 124, 126]⟩ (b.toNat : Int) w
  rw [show ((b.toNat : Int)).toNat.toUInt8 = b by simp] at hib
  have hz : (signsL.contains b = true ∧ 0 ≤ Lib.indexByte signsL b) ∨ (signsL.contains b = false ∧ ¬ 0 ≤ Lib.indexByte signsL b) := by
    cases h : signsL.contains b with
    | true => exact .inl ⟨rfl, ib_yes b _ h⟩
    | false => exact .inr ⟨rfl, by rw [ib_no b _ h]; decide⟩
  rw [tokB_int]
  rw [show (⟨#[33, 35, 36, 37, 38, 39, 42, 43, 45, 46, 94, 95, 96, 124, 126]⟩ : ByteArray).data.toList = signsL from rfl] at hib
  unfold byV
  generalize Lib.indexByte signsL b = z at hib hz
  generalize signsL.contains b = q at hz
  generalize (b.toNat : Int) = x at hib
  have hib' := Lib.hid hib
  clear hib
  by_cases h1 : 97 ≤ x <;> by_cases h2 : x ≤ 122 <;> by_cases h3 : 65 ≤ x <;> by_cases h4 : x ≤ 90 <;> by_cases h5 : 48 ≤ x <;> by_cases h6 : x ≤ 57 <;>
  first
  | (exfalso; omega)
  | (go_enter Try.func41, Try.ntmps41
     go_wp2
     go_ret
     exact ⟨ret_b (by first | rfl | (rw [Bool.eq_iff_iff]; simp <;> omega)), rfl⟩)
  | (rcases hz with ⟨hq, hz⟩ | ⟨hq, hz⟩ <;>
     · go_enter Try.func41, Try.ntmps41
       go_wp2_with (go_at_call 42; (with_reducible refine Calls.mono hib'.out ?_); rintro e w2 ⟨rfl, rfl⟩)
       go_ret
       exact ⟨ret_b (by first | rfl | (rw [Bool.eq_iff_iff]; simp [hq] <;> omega)), rfl⟩)
/-- What is known of the signs behind the first ones. -/
theorem sign_hit {b c : UInt8} {j : Nat} (hc : signsL[j]? = some c) (h : c = b) : signsL.contains b = true := by
  subst h
  rw [List.contains_iff_mem]
  exact List.mem_of_getElem? hc
theorem drop_miss {b c : UInt8} {j : Nat} (hc : signsL[j]? = some c) (h : ¬ c = b) : (signsL.drop j).contains b = (signsL.drop (j + 1)).contains b := by
  obtain ⟨hj, rfl⟩ := List.getElem?_eq_some_iff.1 hc
  rw [List.drop_eq_getElem_cons hj, List.contains_cons]
  have : (b == signsL[j]) = false := beq_eq_false_iff_ne.2 fun e => h e.symm
  rw [this, Bool.false_or]
end Go.Proofs.Ythpohjafnljfhaa
