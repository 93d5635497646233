import Derived.Test.YtabgpnieekcdhaaDoorTkA
import Derived.Test.YtabgpnieekcdhaaDoorShelfT
import Derived.Test.YtabgpnieekcdhaaDoorL
import Derived.WalkSpells
import Derived.WalkLawsBesides
namespace Go.Proofs.YtabgpnieekcdhaaDoor
open Go.RowKit
attribute [local go_sem] Oper.semAt_some

/-! ## Bytes' classes -/
def byV (b : UInt8) : Value := .int .u8 (b.toNat : Int)
/-- A call that tells a byte's class, and leaves memory as it was. -/
def Tells (f : Nat) (p : UInt8 → Bool) : Prop := ∀ (b : UInt8) (w : World), Calls Tryd.prog f #[byV b] w fun e w' => e = .returned (.bool (p b)) ∧ w' = w
theorem ret_b {a b : Bool} (h : a = b) : Ending.returned (.bool a) = .returned (.bool b) := by rw [h]
theorem nle (a : UInt8) (b : UInt8) : (decide (a ≤ b)) = decide ((a.toNat : Int) ≤ (b.toNat : Int)) := by
  rw [decide_eq_decide, UInt8.le_iff_toNat_le]; omega
theorem neq8 (a : UInt8) (b : UInt8) : (a == b) = decide ((a.toNat : Int) = (b.toNat : Int)) := by
  by_cases h : a = b
  · subst h; simp
  · have : ¬ a.toNat = b.toNat := fun e => h (UInt8.toNat_inj.1 e)
    have h2 : ¬ (a.toNat : Int) = (b.toNat : Int) := by omega
    simp [h, h2]
theorem blkB_int (b : UInt8) : blkB b = (decide ((b.toNat : Int) = 9) || decide ((b.toNat : Int) = 32)) := by
  unfold blkB; rw [neq8, neq8]; rfl
theorem valB_int (b : UInt8) : valB b = (decide ((b.toNat : Int) = 9) || (decide (32 ≤ (b.toNat : Int)) && decide ((b.toNat : Int) ≤ 126)) || decide (128 ≤ (b.toNat : Int))) := by
  unfold valB; rw [neq8, nle, nle, nle]; rfl
theorem tokB_int (b : UInt8) : tokB b = ((decide (97 ≤ (b.toNat : Int)) && decide ((b.toNat : Int) ≤ 122) || decide (65 ≤ (b.toNat : Int)) && decide ((b.toNat : Int) ≤ 90)) || (decide (48 ≤ (b.toNat : Int)) && decide ((b.toNat : Int) ≤ 57)) || signsL.contains b) := by
  unfold tokB; rw [nle, nle, nle, nle, nle, nle]; rfl
set_option maxRecDepth 100000 in
theorem blank_ref (b : UInt8) (w : World) : Calls Tryd.prog 72 #[byV b] w fun e w' => e = .returned (.bool (blkB b)) ∧ w' = w := by
  rw [blkB_int]
  unfold byV
  generalize (b.toNat : Int) = x
  by_cases h1 : x = 9 <;> by_cases h2 : x = 32 <;>
  · go_enter Tryd.func72, Tryd.ntmps72
    go_wp2
    go_ret
    exact ⟨by simp [h1, h2], rfl⟩
set_option maxRecDepth 100000 in
theorem blank_any (b : UInt8) (w : World) : Calls Tryd.prog 83 #[byV b] w fun e w' => e = .returned (.bool (blkB b)) ∧ w' = w := by
  rw [blkB_int]
  unfold byV
  generalize (b.toNat : Int) = x
  by_cases h1 : x = 9 <;> by_cases h2 : x = 32 <;>
  · go_enter Tryd.func83, Tryd.ntmps83
    go_wp2
    go_ret
    exact ⟨by simp [h1, h2], rfl⟩
set_option maxRecDepth 100000 in
theorem val_any (b : UInt8) (w : World) : Calls Tryd.prog 82 #[byV b] w fun e w' => e = .returned (.bool (valB b)) ∧ w' = w := by
  rw [valB_int]
  unfold byV
  generalize (b.toNat : Int) = x
  by_cases h1 : x = 9 <;> by_cases h2 : 32 ≤ x <;> by_cases h3 : x ≤ 126 <;> by_cases h4 : 128 ≤ x <;>
  first
  | (exfalso; omega)
  | (go_enter Tryd.func82, Tryd.ntmps82
     go_wp2
     go_ret
     exact ⟨ret_b (by first | rfl | (rw [Bool.eq_iff_iff]; simp <;> omega)), rfl⟩)
/-- How a byte's class is worked out: letters, digits, and else the signs. -/
theorem ib_no (c : UInt8) : ∀ (l : List UInt8), l.contains c = false → Lib.indexByte l c = -1
  | [], _ => rfl
  | b :: r, h => by
    simp only [List.contains_cons, Bool.or_eq_false_iff, beq_eq_false_iff_ne] at h
    have hb : ¬ b = c := fun e => h.1 e.symm
    simp [Lib.indexByte, hb, ib_no c r h.2]
theorem ib_yes (c : UInt8) : ∀ (l : List UInt8), l.contains c = true → 0 ≤ Lib.indexByte l c
  | [], h => absurd h (by simp)
  | b :: r, h => by
    by_cases hb : b = c
    · simp [Lib.indexByte, hb]
    · have hr : r.contains c = true := by
        rw [List.contains_cons, Bool.or_eq_true] at h
        rcases h with e | e
        · exact absurd (beq_iff_eq.1 e).symm hb
        · exact e
      have := ib_yes c r hr
      simp only [Lib.indexByte, beq_iff_eq, hb, if_false]
      split <;> omega
set_option maxRecDepth 100000 in
set_option maxHeartbeats 2000000 in
theorem tok_any (b : UInt8) (w : World) : Calls Tryd.prog 80 #[byV b] w fun e w' => e = .returned (.bool (tokB b)) ∧ w' = w := by
  have hib := Tryd.strings_IndexByte ⟨#[33, 35, 36, 37, 38, 39, 42, 43, 45, 46, 94, 95, 96, 124, 126]⟩ (b.toNat : Int) w
  rw [show ((b.toNat : Int)).toNat.toUInt8 = b by simp] at hib
  have hz : (signsL.contains b = true ∧ 0 ≤ Lib.indexByte signsL b) ∨ (signsL.contains b = false ∧ ¬ 0 ≤ Lib.indexByte signsL b) := by
    cases h : signsL.contains b with
    | true => exact .inl ⟨rfl, ib_yes b _ h⟩
    | false => exact .inr ⟨rfl, by rw [ib_no b _ h]; decide⟩
  rw [tokB_int]
  rw [show (⟨#[33, 35, 36, 37, 38, 39, 42, 43, 45, 46, 94, 95, 96, 124, 126]⟩ : ByteArray).data.toList = signsL from rfl] at hib
  unfold byV
  generalize Lib.indexByte signsL b = z at hib hz
  generalize signsL.contains b = q at hz
  generalize (b.toNat : Int) = x at hib
  have hib' := Lib.hid hib
  clear hib
  by_cases h1 : 97 ≤ x <;> by_cases h2 : x ≤ 122 <;> by_cases h3 : 65 ≤ x <;> by_cases h4 : x ≤ 90 <;> by_cases h5 : 48 ≤ x <;> by_cases h6 : x ≤ 57 <;>
  first
  | (exfalso; omega)
  | (go_enter Tryd.func80, Tryd.ntmps80
     go_wp2
     go_ret
     exact ⟨ret_b (by first | rfl | (rw [Bool.eq_iff_iff]; simp <;> omega)), rfl⟩)
  | (rcases hz with ⟨hq, hz⟩ | ⟨hq, hz⟩ <;>
     · go_enter Tryd.func80, Tryd.ntmps80
       go_wp2_with (go_at_call 81; (with_reducible refine Calls.mono hib'.out ?_); rintro e w2 ⟨rfl, rfl⟩)
       go_ret
       exact ⟨ret_b (by first | rfl | (rw [Bool.eq_iff_iff]; simp [hq] <;> omega)), rfl⟩)
/-- What is known of the signs behind the first ones. -/
theorem sign_hit {b c : UInt8} {j : Nat} (hc : signsL[j]? = some c) (h : c = b) : signsL.contains b = true := by
  subst h
  rw [List.contains_iff_mem]
  exact List.mem_of_getElem? hc
theorem drop_miss {b c : UInt8} {j : Nat} (hc : signsL[j]? = some c) (h : ¬ c = b) : (signsL.drop j).contains b = (signsL.drop (j + 1)).contains b := by
  obtain ⟨hj, rfl⟩ := List.getElem?_eq_some_iff.1 hc
  rw [List.drop_eq_getElem_cons hj, List.contains_cons]
  have : (b == signsL[j]) = false := beq_eq_false_iff_ne.2 fun e => h e.symm
  rw [this, Bool.false_or]
set_option maxRecDepth 100000 in
set_option maxHeartbeats 4000000 in
theorem sign_loop (b : UInt8) (w : World) (q : Bool) (hq : signsL.contains b = q) (h1 : ¬ (97 ≤ (b.toNat : Int) ∧ (b.toNat : Int) ≤ 122 ∨ 65 ≤ (b.toNat : Int) ∧ (b.toNat : Int) ≤ 90 ∨ 48 ≤ (b.toNat : Int) ∧ (b.toNat : Int) ≤ 57)) :
    Calls Tryd.prog 71 #[byV b] w fun e w' => e = .returned (.bool q) ∧ w' = w := by
  have hx : ∀ x : Int, (b.toNat : Int) = x → (97 ≤ x ∧ ¬ x ≤ 122 ∧ 65 ≤ x ∧ ¬ x ≤ 90 ∧ 48 ≤ x ∧ ¬ x ≤ 57) ∨ (¬ 97 ≤ x ∧ 65 ≤ x ∧ ¬ x ≤ 90 ∧ 48 ≤ x ∧ ¬ x ≤ 57) ∨ (¬ 97 ≤ x ∧ ¬ 65 ≤ x ∧ 48 ≤ x ∧ ¬ x ≤ 57) ∨ (¬ 97 ≤ x ∧ ¬ 65 ≤ x ∧ ¬ 48 ≤ x) := by intro x hx; subst hx; omega
  have hq' := Lib.hid hq
  have hcell : ∀ j : Nat, j < 15 → ∃ c, signsL[j]? = some c := fun j hj => ⟨signsL[j]'hj, List.getElem?_eq_getElem hj⟩
  obtain ⟨x, hxe⟩ : ∃ x : Int, (b.toNat : Int) = x := ⟨_, rfl⟩
  have hx := hx x hxe
  have hxe' := Lib.hid hxe
  unfold byV
  rw [hxe]
  clear hq h1 hxe
  rcases hx with ⟨h1, h2, h3, h4, h5, h6⟩ | ⟨h1, h2, h3, h4, h5⟩ | ⟨h1, h2, h3, h4⟩ | ⟨h1, h2, h3⟩ <;>
  · go_enter Tryd.func71, Tryd.ntmps71
    go_wp2
    go_loopw [4] (fun n wr => ∃ j : Nat, j ≤ 15 ∧ n = .int .i64 (j : Int) ∧ signsL.contains b = (signsL.drop j).contains b ∧ wr = w) (fun n _ => 15 - (intOf n).toNat)
    case atStart => exact ⟨0, by omega, rfl, rfl, rfl⟩
    case round =>
      obtain ⟨j, hj, rfl, hd, rfl⟩ := hrel
      have hd' := Lib.hid hd
      clear hd
      by_cases hlt : j < 15
      · have hltI : (j : Int) < 15 := by omega
        obtain ⟨c, hc⟩ := hcell j hlt
        have hge : (⟨#[33, 35, 36, 37, 38, 39, 42, 43, 45, 46, 94, 95, 96, 124, 126]⟩ : ByteArray)[j]'hlt = c := by
          obtain ⟨_, rfl⟩ := List.getElem?_eq_some_iff.1 hc
          rfl
        by_cases he : c = b
        · have hne : ((((⟨#[33, 35, 36, 37, 38, 39, 42, 43, 45, 46, 94, 95, 96, 124, 126]⟩ : ByteArray)[j]'hlt).toNat : Int) == x) = true := by
            rw [hge, he, hxe'.out, beq_iff_eq]
          have hres := Lib.hid (sign_hit hc he)
          clear hc he hge
          go_wp2
          go_ret
          exact ⟨by rw [← hq'.out, hres.out]; rfl, rfl⟩
        · have hne : ((((⟨#[33, 35, 36, 37, 38, 39, 42, 43, 45, 46, 94, 95, 96, 124, 126]⟩ : ByteArray)[j]'hlt).toNat : Int) == x) = false := by
            rw [hge, beq_eq_false_iff_ne]
            intro e
            exact he (UInt8.toNat_inj.1 (by have := hxe'.out; omega))
          have hres := Lib.hid (drop_miss hc he)
          clear hc he hge
          go_wp2
          exact ⟨⟨j + 1, by omega, by go_num, by rw [hd'.out, hres.out], trivial⟩, by simp [intOf]; omega⟩
      · obtain rfl : j = 15 := by omega
        go_wp2
        go_ret
        refine ⟨?_, rfl⟩
        rw [← hq'.out, hd'.out]
        rfl
set_option maxHeartbeats 4000000 in
theorem sign_any (b : UInt8) (w : World) : Calls Tryd.prog 71 #[byV b] w fun e w' => e = .returned (.bool (tokB b)) ∧ w' = w := by
  by_cases hc : 97 ≤ (b.toNat : Int) ∧ (b.toNat : Int) ≤ 122 ∨ 65 ≤ (b.toNat : Int) ∧ (b.toNat : Int) ≤ 90 ∨ 48 ≤ (b.toNat : Int) ∧ (b.toNat : Int) ≤ 57
  · have ht : tokB b = true := by
      rw [tokB_int]
      simp only [Bool.or_eq_true, Bool.and_eq_true, decide_eq_true_eq]
      rcases hc with h | h | h
      · exact .inl (.inl (.inl h))
      · exact .inl (.inl (.inr h))
      · exact .inl (.inr h)
    rw [ht]
    unfold byV
    generalize (b.toNat : Int) = x at hc
    have hx : (97 ≤ x ∧ x ≤ 122) ∨ (97 ≤ x ∧ ¬ x ≤ 122 ∧ 65 ≤ x ∧ x ≤ 90 ∧ 48 ≤ x) ∨ (¬ 97 ≤ x ∧ 65 ≤ x ∧ x ≤ 90) ∨ (¬ 97 ≤ x ∧ ¬ 65 ≤ x ∧ 48 ≤ x ∧ x ≤ 57) := by omega
    clear hc
    rcases hx with ⟨h1, h2⟩ | ⟨h1, h2, h3, h4, h5⟩ | ⟨h1, h2, h3⟩ | ⟨h1, h2, h3, h4⟩ <;>
    first
    | (exfalso; omega)
    | (go_enter Tryd.func71, Tryd.ntmps71
       go_wp2
       go_ret
       exact ⟨rfl, rfl⟩)
  · have ht : tokB b = signsL.contains b := by
      rw [tokB_int]
      have : (decide (97 ≤ (b.toNat : Int)) && decide ((b.toNat : Int) ≤ 122) || decide (65 ≤ (b.toNat : Int)) && decide ((b.toNat : Int) ≤ 90) || decide (48 ≤ (b.toNat : Int)) && decide ((b.toNat : Int) ≤ 57)) = false := by
        rw [Bool.eq_false_iff]
        simp only [ne_eq, Bool.or_eq_true, Bool.and_eq_true, decide_eq_true_eq]
        omega
      rw [this, Bool.false_or]
    rw [ht]
    exact sign_loop b w _ rfl hc
end Go.Proofs.YtabgpnieekcdhaaDoor
