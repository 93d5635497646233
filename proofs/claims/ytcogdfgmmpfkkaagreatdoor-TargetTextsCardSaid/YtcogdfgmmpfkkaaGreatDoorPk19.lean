import Derived.Test.YtcogdfgmmpfkkaaGreatDoorPk18
import Derived.Test.YtcogdfgmmpfkkaaGreatDoorPk2
namespace Go.Proofs.YtcogdfgmmpfkkaaGreatDoor
open Go.RowKit Go.Shelf
attribute [local go_sem] Oper.semAt_some

/-! ## A byte, written -/
def sgnB (c : UInt8) : Bool := c == 45 || c == 46 || c == 95 || c == 126
theorem indexB_sgn (c : UInt8) : decide (0 ≤ Lib.indexByte [45, 46, 95, 126] c) = sgnB c := by
  have : ∀ n : Fin 256, decide (0 ≤ Lib.indexByte [45, 46, 95, 126] (UInt8.ofNat n.1)) = sgnB (UInt8.ofNat n.1) := by decide +kernel
  have h := this ⟨c.toNat, c.toNat_lt⟩
  simpa using h
theorem plainB_eq (c : UInt8) : plainB c = (decide (97 ≤ c.toNat ∧ c.toNat ≤ 122) || decide (65 ≤ c.toNat ∧ c.toNat ≤ 90) || decide (48 ≤ c.toNat ∧ c.toNat ≤ 57) || sgnB c) := by
  have : ∀ n : Fin 256, plainB (UInt8.ofNat n.1) = (decide (97 ≤ (UInt8.ofNat n.1).toNat ∧ (UInt8.ofNat n.1).toNat ≤ 122) || decide (65 ≤ (UInt8.ofNat n.1).toNat ∧ (UInt8.ofNat n.1).toNat ≤ 90) || decide (48 ≤ (UInt8.ofNat n.1).toNat ∧ (UInt8.ofNat n.1).toNat ≤ 57) || sgnB (UInt8.ofNat n.1)) := by decide +kernel
  have h := this ⟨c.toNat, c.toNat_lt⟩
  simpa using h
set_option maxRecDepth 100000 in
set_option maxHeartbeats 4000000 in
theorem stands_any (c : UInt8) (w : World) : Calls Tryz.prog 34 #[.int .u8 (c.toNat : Int)] w fun e w' => e = .returned (.bool (plainB c)) ∧ w' = w := by
  have hix := Lib.hid (fun W => Tryz.strings_IndexByte ⟨#[45, 46, 95, 126]⟩ (c.toNat : Int) W)
  rw [show ((c.toNat : Int)).toNat.toUInt8 = c by simp, show (⟨#[45, 46, 95, 126]⟩ : ByteArray).data.toList = [45, 46, 95, 126] from rfl] at hix
  have hib := Lib.hid (indexB_sgn c)
  generalize Lib.indexByte [45, 46, 95, 126] c = i at *
  rw [plainB_eq]
  generalize sgnB c = sg at *
  have hl := c.toNat_lt
  generalize c.toNat = n at *
  rcases (by omega : n < 48 ∨ 48 ≤ n ∧ n ≤ 57 ∨ 58 ≤ n ∧ n ≤ 64 ∨ 65 ≤ n ∧ n ≤ 90 ∨ 91 ≤ n ∧ n ≤ 96 ∨ 97 ≤ n ∧ n ≤ 122 ∨ 123 ≤ n) with h | h | h | h | h | h | h
  all_goals
    go_enter Tryz.func34, Tryz.ntmps34
    go_wp2_with (go_at_call 59; (with_reducible refine Calls.mono (hix.out _) ?_); rintro e w7 ⟨rfl, hw7⟩; obtain rfl := hw7.symm)
    go_ret
    refine ⟨?_, rfl⟩
    first
      | rfl
      | (rw [← hib.out]
         show Ending.returned (Value.bool _) = Ending.returned (Value.bool _)
         congr 2
         rw [Bool.eq_iff_iff]
         simp only [Bool.or_eq_true, Bool.and_eq_true, decide_eq_true_eq, Bool.false_eq_true, false_or, or_false]
         omega)
theorem hex3_len (c : UInt8) : IsLen 16 (256 + c.toNat) 3 := by
  have hl := c.toNat_lt
  refine ⟨by omega, ?_, .inr ?_⟩
  · show (256 + c.toNat) / 4096 = 0
    omega
  · show (256 + c.toNat) / 256 ≠ 0
    omega
theorem hex3_txt (c : UInt8) : Lib.toUpperA (txt 16 (256 + c.toNat) 3) = [49, hexG (c.toNat / 16), hexG (c.toNat % 16)] ∧ ∀ b ∈ txt 16 (256 + c.toNat) 3, b.toNat < 128 := by
  have : ∀ n : Fin 256, Lib.toUpperA (txt 16 (256 + n.1) 3) = [49, hexG (n.1 / 16), hexG (n.1 % 16)] ∧ ∀ b ∈ txt 16 (256 + n.1) 3, b.toNat < 128 := by decide +kernel
  exact this ⟨c.toNat, c.toNat_lt⟩
set_option maxRecDepth 100000 in
set_option maxHeartbeats 4000000 in
theorem escaped_any (c : UInt8) (w : World) (hT : Tab w) : Calls Tryz.prog 35 #[.int .u8 (c.toNat : Int)] w (StrR [37, hexG (c.toNat / 16), hexG (c.toNat % 16)] w) := by
  have hl := c.toNat_lt
  have hu := hex3_txt c
  have hh := Lib.hid (show Calls Tryz.prog 61 #[.int .u64 (256 + (c.toNat : Int))] w fun e w' => e = .returned (.string ⟨(txt 16 (256 + c.toNat) 3).toArray⟩) ∧ Below w.heap.size w w' from
    (hexCall_any (256 + c.toNat) (by omega) w hT).mono fun e w' ⟨⟨K, hK, he⟩, hb⟩ => ⟨by rw [he, isLen_one (by omega) hK (hex3_len c)], hb⟩)
  obtain ⟨t, ht⟩ : ∃ t, txt 16 (256 + c.toNat) 3 = t := ⟨_, rfl⟩
  rw [ht] at hh hu
  have htl : t.length = 3 := by rw [← ht, txt_length]
  have hup := Lib.hid (fun W => show Calls Tryz.prog 60 #[.string ⟨t.toArray⟩] W fun e w' => e = .returned (.string ⟨(Lib.toUpperA t).toArray⟩) ∧ Below W.heap.size W w' from
    Tryz.strings_ToUpper_ascii ⟨t.toArray⟩ W (by show t.length ≤ _; omega) (fun j b hb => hu.2 b (List.mem_of_getElem? hb)))
  rw [hu.1] at hup
  have hw64 : IntKind.u64.wrap (256 + (c.toNat : Int)) = 256 + (c.toNat : Int) := by rw [IntKind.wrap_u64]; omega
  have hw64b : IntKind.u64.wrap (c.toNat : Int) = (c.toNat : Int) := by rw [IntKind.wrap_u64]; omega
  have hx : (⟨#[49, hexG (c.toNat / 16), hexG (c.toNat % 16)]⟩ : ByteArray).extract 1 3 = ⟨#[hexG (c.toNat / 16), hexG (c.toNat % 16)]⟩ := by
    rw [show (⟨#[49, hexG (c.toNat / 16), hexG (c.toNat % 16)]⟩ : ByteArray) = ⟨[49, hexG (c.toNat / 16), hexG (c.toNat % 16)].toArray⟩ from rfl, exE1]
    rfl
  have hsz : (⟨#[49, hexG (c.toNat / 16), hexG (c.toNat % 16)]⟩ : ByteArray).size = 3 := rfl
  have hcat : (⟨#[37]⟩ : ByteArray) ++ ⟨#[hexG (c.toNat / 16), hexG (c.toNat % 16)]⟩ = ⟨#[37, hexG (c.toNat / 16), hexG (c.toNat % 16)]⟩ := app_str [37] [hexG (c.toNat / 16), hexG (c.toNat % 16)]
  unfold StrR
  clear ht hu htl
  generalize hexG (c.toNat / 16) = h1 at *
  generalize hexG (c.toNat % 16) = h2 at *
  generalize c.toNat = n at *
  go_enter Tryz.func35, Tryz.ntmps35
  go_wp2_with (first
    | (go_at_call 61; (with_reducible refine Calls.mono hh.out ?_); rintro e w2 ⟨rfl, hb2⟩; have hb2' := Lib.hid hb2; clear hb2)
    | (go_at_call 60; (with_reducible refine Calls.mono (hup.out _) ?_); rintro e w3 ⟨rfl, hb3⟩; have hb3' := Lib.hid hb3; clear hb3))
  go_ret
  exact ⟨rfl, hb2'.out.trans (hb3'.out.mono hb2'.out.size)⟩
end Go.Proofs.YtcogdfgmmpfkkaaGreatDoor
