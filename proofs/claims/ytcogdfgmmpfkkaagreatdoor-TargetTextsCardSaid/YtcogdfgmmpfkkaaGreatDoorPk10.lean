import Derived.Test.YtcogdfgmmpfkkaaGreatDoorPk9
import Derived.Deep.LoopGhost
import Derived.Laws.RangeString
import Derived.Laws.Strings3
namespace Go.Proofs.YtcogdfgmmpfkkaaGreatDoor
open Go.RowKit Go.Shelf Go.Lib
attribute [local go_sem] Oper.semAt_some

/-! ## A point that is none of two bytes -/
theorem enc_high (r : Int) (h : 128 ≤ r) : (Utf8.encode r).size = 2 ∧ (∃ a b : UInt8, Utf8.encode r = ⟨#[a, b]⟩ ∧ 128 ≤ b.toNat) ∨ 3 ≤ (Utf8.encode r).size ∧ (Utf8.encode r).size ≤ 4 := by
  unfold Utf8.encode
  simp only
  have hc : 128 ≤ (if Utf8.valid r = true then r.toNat else Utf8.runeError) := by
    split
    · omega
    · decide
  generalize (if Utf8.valid r = true then r.toNat else Utf8.runeError) = c at *
  rw [if_neg (by omega)]
  split
  · refine .inl ⟨rfl, _, _, rfl, ?_⟩
    rw [UInt8.toNat_ofNat']
    omega
  · split
    · exact .inr ⟨by show 3 ≤ 3; omega, by show 3 ≤ 4; omega⟩
    · exact .inr ⟨by show 3 ≤ 4; omega, by show 4 ≤ 4; omega⟩
def twoB : ByteArray := ⟨#[47, 0]⟩
set_option maxRecDepth 100000 in
set_option maxHeartbeats 4000000 in
theorem indexRune_bad (w : World) : Calls Tryz.prog 110 #[.string ⟨#[47, 0]⟩, .int .i32 65533] w fun e w' => e = .returned (.int .i64 (-1)) ∧ Below w.heap.size w w' := by
  have hx : ∀ i : Nat, (hi : i < twoB.size) → (twoB[i]'hi).toNat < 128 := by decide
  have hz : twoB.size = 2 := rfl
  rw [show (⟨#[47, 0]⟩ : ByteArray) = twoB from rfl]
  go_enter Tryz.func110, Tryz.ntmps110
  go_wp2
  go_loopg [5, 6] 2 (fun g _ _ wx => ∃ i : Nat, i + g = 2 ∧ wx = w.iter twoB i)
  case atStart => exact ⟨0, by omega, rfl⟩
  case round =>
    obtain ⟨i, hig, rfl⟩ := hrel
    cases gk with
    | zero =>
      obtain rfl : i = 2 := by omega
      have hnx := run_next_end (P := Tryz.prog) w twoB 2
      go_wp2
      go_ret
      exact ⟨rfl, (Below.refl _ _).alloc (Nat.le_refl _) _⟩
    | succ g =>
      have hi : i < twoB.size := by rw [hz]; omega
      have hnx := fun ty => run_next_ascii (P := Tryz.prog) w twoB i ty hi (hx i hi)
      have h9 : (((twoB[i]'hi).toNat : Int) == 65533) = false := beq_eq_false_iff_ne.2 (by have := hx i hi; omega)
      generalize ((twoB[i]'hi).toNat : Int) = x at *
      go_wp2
      go_roundg g
      case measure => omega
      case rel => exact ⟨i + 1, by omega, rfl⟩
set_option maxRecDepth 100000 in
set_option maxHeartbeats 4000000 in
theorem indexRune_high (r : Int) (h1 : 128 ≤ r) (h2 : r ≤ 2147483647) (w : World) : Calls Tryz.prog 110 #[.string ⟨#[47, 0]⟩, .int .i32 r] w fun e w' => e = .returned (.int .i64 (-1)) ∧ Below w.heap.size w w' := by
  by_cases hb : r = 65533
  · subst hb
    exact indexRune_bad w
  · have hbE : (r == 65533) = false := beq_eq_false_iff_ne.2 hb
    have j0 : 0 ≤ r := by omega
    have j1 : ¬ r < 128 := by omega
    have hv := Lib.hid (fun W => Tryz.utf8_ValidRune r W)
    have he := enc_high r h1
    clear hb h1 h2
    go_enter Tryz.func110, Tryz.ntmps110
    go_wp2_with (go_at_call 122; (with_reducible refine Calls.mono (hv.out _) ?_); rintro e w7 ⟨rfl, hw7⟩; obtain rfl := hw7.symm)
    · go_ret
      exact ⟨rfl, Below.refl _ _⟩
    · clear hv
      have hcv : ∀ W : World, (convert 21 9 (.int .i32 r)).run Tryz.prog W = .ok (.string (Utf8.encode r)) W := fun W => by
        simp [convert, run_underlying Tryz.underlying21, run_underlying Tryz.underlying9, Conv.intToString]
      have hci : ∀ W : World, (Conv.intToString r).run Tryz.prog W = .ok (.string (Utf8.encode r)) W := fun W => rfl
      generalize Utf8.encode r = rs at *
      rcases he with ⟨-, a, b, rfl, hb⟩ | ⟨h3, h4⟩
      · have hix := Lib.hid (fun W => show Calls Tryz.prog 59 #[.string ByteArray.empty, .int .u8 (b.toNat : Int)] W fun e w' => e = .returned (.int .i64 (-1)) ∧ w' = W from Tryz.strings_IndexByte ByteArray.empty (b.toNat : Int) W)
        have e1 : (⟨#[47, 0]⟩ : ByteArray).extract 2 2 = ByteArray.empty := by decide
        have hlt : 1 < (⟨#[a, b]⟩ : ByteArray).size := by show 1 < 2; omega
        have hbb : (((⟨#[a, b]⟩ : ByteArray)[1]'hlt).toNat : Int) = (b.toNat : Int) := rfl
        have h47 : 1 < (⟨#[47, 0]⟩ : ByteArray).size := by show 1 < 2; omega
        have hne : ((((⟨#[47, 0]⟩ : ByteArray)[1]'h47).toNat : Int) != (b.toNat : Int)) = true := by
          rw [show (((⟨#[47, 0]⟩ : ByteArray)[1]'h47).toNat : Int) = 0 from rfl, bne_iff_ne]
          omega
        have hsz : (⟨#[a, b]⟩ : ByteArray).size = 2 := rfl
        have hw2 : IntKind.i64.wrap 2 = 2 := by decide
        have hsz2 : (⟨#[47, 0]⟩ : ByteArray).size = 2 := rfl
        go_step3
        go_wp2
        go_loopg [9, 10, 11, 12] 1 (fun g x y _ _ wx => x = .int .i64 1 ∧ y = .int .i64 0 ∧ wx = w)
        case atStart => exact ⟨rfl, rfl, rfl⟩
        case round =>
          obtain ⟨rfl, rfl, rfl⟩ := hrel
          go_wp2
          go_step3
          go_wp2
          go_quiet (fail)
          go_wp2
          obtain ⟨wq, hwq⟩ : ∃ wq, wr.drewN nq = wq := ⟨_, rfl⟩
          have hbq := Lib.hid (show Below wr.heap.size wr wq by rw [← hwq]; exact below_draws (Below.refl _ _) _)
          rw [hwq]
          clear hwq
          go_quiet ((go_at_call 59; exact Calls.quiet_of_same (hix.out _)))
          go_wp2
          simp only [Exit.noGoto_ret, Exit.inBlock, Exit.then]
          go_ret
          exact ⟨rfl, below_draws hbq.out _⟩
      · obtain ⟨n, hn⟩ : ∃ n : Nat, rs.size = n := ⟨_, rfl⟩
        have hsI : (rs.size : Int) = (n : Int) := by rw [hn]
        have hw1 : IntKind.i64.wrap ((n : Int) - 1) = (n : Int) - 1 := by rw [IntKind.wrap_i64]; omega
        have hnl : ¬ (n : Int) - 1 < 2 := by omega
        rw [hn] at h3 h4
        go_step3
        go_wp2
        go_loopg [9, 10, 11, 12] 1 (fun g x y _ _ wx => x = .int .i64 ((n : Int) - 1) ∧ y = .int .i64 0 ∧ wx = w)
        case atStart => exact ⟨rfl, rfl, rfl⟩
        case round =>
          obtain ⟨rfl, rfl, rfl⟩ := hrel
          go_wp2
          try rw [Exit.noGoto_ret]
          go_ret
          exact ⟨rfl, Below.refl _ _⟩
end Go.Proofs.YtcogdfgmmpfkkaaGreatDoor
