import Derived.Test.YtabgpnieekcdhaaDoorBs
import Derived.Test.YtabgpnieekcdhaaDoorTkC
namespace Go.Proofs.YtabgpnieekcdhaaDoor
open Go.RowKit
attribute [local go_sem] Oper.semAt_some class_at0 class_at1 class_at2

/-! ## Texts trimmed -/
/-- What is left from place f to place t: blanks ahead and behind are left out. -/
theorem drop_step {s : List UInt8} {j : Nat} (hj : j < s.length) (h : dropL (s.drop j) = dropL s) : (blkB s[j] = true → dropL (s.drop (j + 1)) = dropL s) ∧ (blkB s[j] = false → dropL s = s.drop j) := by
  rw [List.drop_eq_getElem_cons hj] at h ⊢
  exact ⟨fun hb => by rw [← h, dropL_yes _ hb], fun hb => by rw [← h, dropL_no _ hb]⟩
theorem mid_step {s : List UInt8} {j k : Nat} (hjk : j ≤ k) (hk : k < s.length) : (s.take (k + 1)).drop j = (s.take k).drop j ++ [s[k]] := by
  rw [List.take_succ_eq_append_getElem hk, List.drop_append_of_le_length (by simp; omega)]
theorem trim_step {s : List UInt8} {j k : Nat} (hjk : j ≤ k) (hk : k < s.length) (h : dropR ((s.take (k + 1)).drop j) = trimL s) : (blkB s[k] = true → dropR ((s.take k).drop j) = trimL s) ∧ (blkB s[k] = false → trimL s = (s.take (k + 1)).drop j) := by
  rw [mid_step hjk hk] at h ⊢
  exact ⟨fun hb => by rw [← h, dropR_yes _ hb], fun hb => by rw [← h, dropR_no _ hb]⟩
theorem trim_none (s : List UInt8) (j : Nat) : (s.take j).drop j = [] := by
  rw [List.drop_eq_nil_iff]; simp; omega
set_option maxRecDepth 100000 in
set_option maxHeartbeats 4000000 in
theorem trimmed_any (s : List UInt8) (w : World) (hs : s.length ≤ 1000000) : Calls Tryd.prog 77 #[.string ⟨s.toArray⟩] w fun e w' => e = .returned (.string ⟨(trimL s).toArray⟩) ∧ Below w.heap.size w w' := by
  go_enter Tryd.func77, Tryd.ntmps77
  go_wp2_with (go_at_call 76; (with_reducible refine Calls.mono (classes_any w) ?_); rintro e w1 ⟨rfl, hb1⟩)
  go_loopw [4] (fun n wr => ∃ j : Nat, j ≤ s.length ∧ n = .int .i64 (j : Int) ∧ dropL (s.drop j) = dropL s ∧ wr = w1) (fun n _ => s.length - (intOf n).toNat)
  case atStart => exact ⟨0, Nat.zero_le _, rfl, rfl, rfl⟩
  case round =>
    obtain ⟨j, hj, rfl, hd, rfl⟩ := hrel
    have key : (j < s.length ∧ ∃ hlt : j < s.length, blkB s[j] = true ∧ dropL (s.drop (j + 1)) = dropL s) ∨ ((j = s.length ∨ ∃ hlt : j < s.length, blkB s[j] = false) ∧ dropL s = s.drop j) := by
      by_cases hlt : j < s.length
      · obtain ⟨h1, h2⟩ := drop_step hlt hd
        cases hc : blkB s[j] with
        | true => exact .inl ⟨hlt, hlt, hc, h1 hc⟩
        | false => exact .inr ⟨.inr ⟨hlt, hc⟩, h2 hc⟩
      · obtain rfl : j = s.length := by omega
        exact .inr ⟨.inl rfl, by rw [← hd]; simp [dropL]⟩
    clear hd
    rcases key with ⟨hlt, hlt2, hc, hd⟩ | ⟨hc, hd⟩
    · have hltI : (j : Int) < (s.length : Int) := by omega
      have hx : Calls Tryd.prog 83 #[.int .u8 (((⟨s.toArray⟩ : ByteArray)[j]'hlt).toNat : Int)] wr fun e w' => e = .returned (.bool (blkB s[j])) ∧ w' = wr := blank_any s[j] wr
      rw [hc] at hx
      have hx' := Lib.hid hx
      have hd' := Lib.hid hd
      clear hx hc hd
      go_wp2_with (go_at_call 83; (with_reducible refine Calls.mono hx'.out ?_); rintro e w2 ⟨rfl, rfl⟩)
      exact ⟨⟨j + 1, by omega, by go_num, hd'.out, trivial⟩, by simp [intOf]; omega⟩
    · have hd' := Lib.hid hd
      have hb1' := Lib.hid hb1
      clear hd hb1
      rcases hc with hjn | ⟨hlt, hc⟩
      · have hnI : ¬ (j : Int) < (s.length : Int) := by omega
        have hst := Lib.hid (show dropR ((s.take s.length).drop j) = trimL s by rw [List.take_length, ← hd'.out]; rfl)
        clear hd'
        go_wp2_with (fail)
        go_loopw [5] (fun n W => ∃ k : Nat, j ≤ k ∧ k ≤ s.length ∧ n = .int .i64 (k : Int) ∧ dropR ((s.take k).drop j) = trimL s ∧ W = wr) (fun n _ => (intOf n).toNat)
        case atStart => exact ⟨s.length, hj, Nat.le_refl _, rfl, hst.out, rfl⟩
        case round =>
          obtain ⟨k, hjk, hk, rfl, hr, rfl⟩ := hrel
          have key : (∃ m, ∃ hlt : m < s.length, k = m + 1 ∧ j ≤ m ∧ blkB s[m] = true ∧ dropR ((s.take m).drop j) = trimL s) ∨ (∃ m, ∃ hlt : m < s.length, k = m + 1 ∧ j ≤ m ∧ blkB s[m] = false ∧ trimL s = (s.take (m + 1)).drop j) ∨ (k = j ∧ trimL s = []) := by
            rcases Nat.lt_or_ge j k with h | h
            · obtain ⟨m, rfl⟩ : ∃ m, k = m + 1 := ⟨k - 1, by omega⟩
              obtain ⟨h1, h2⟩ := trim_step (by omega : j ≤ m) (by omega : m < s.length) hr
              cases hc : blkB s[m] with
              | true => exact .inl ⟨m, by omega, rfl, by omega, hc, h1 hc⟩
              | false => exact .inr (.inl ⟨m, by omega, rfl, by omega, hc, h2 hc⟩)
            · obtain rfl : k = j := by omega
              exact .inr (.inr ⟨rfl, by rw [← hr, trim_none]; rfl⟩)
          clear hr
          rcases key with ⟨m, hlt, rfl, hjm, hc, hr⟩ | ⟨m, hlt, rfl, hjm, hc, hr⟩ | ⟨rfl, hr⟩
          · exfalso; omega
          · exfalso; omega
          · have hnI2 : ¬ (k : Int) < (k : Int) := by omega
            have hr' := Lib.hid hr
            clear hr
            go_wp2
            go_ret
            exact ⟨by rw [hr'.out]; rfl, hb1'.out⟩
      · have hltI : (j : Int) < (s.length : Int) := by omega
        have hx : Calls Tryd.prog 83 #[.int .u8 (((⟨s.toArray⟩ : ByteArray)[j]'hlt).toNat : Int)] wr fun e w' => e = .returned (.bool (blkB s[j])) ∧ w' = wr := blank_any s[j] wr
        rw [hc] at hx
        have hx' := Lib.hid hx
        clear hx hc
        have hst := Lib.hid (show dropR ((s.take s.length).drop j) = trimL s by rw [List.take_length, ← hd'.out]; rfl)
        clear hd'
        go_wp2_with (go_at_call 83; (with_reducible refine Calls.mono hx'.out ?_); rintro e w2 ⟨rfl, hw2⟩; obtain rfl := hw2.symm)
        clear hx'
        go_loopw [5] (fun n W => ∃ k : Nat, j ≤ k ∧ k ≤ s.length ∧ n = .int .i64 (k : Int) ∧ dropR ((s.take k).drop j) = trimL s ∧ W = wr) (fun n _ => (intOf n).toNat)
        case atStart => exact ⟨s.length, hj, Nat.le_refl _, rfl, hst.out, rfl⟩
        case round =>
          obtain ⟨k, hjk, hk, rfl, hr, rfl⟩ := hrel
          have key : (∃ m, ∃ hlt : m < s.length, k = m + 1 ∧ j ≤ m ∧ blkB s[m] = true ∧ dropR ((s.take m).drop j) = trimL s) ∨ (∃ m, ∃ hlt : m < s.length, k = m + 1 ∧ j ≤ m ∧ blkB s[m] = false ∧ trimL s = (s.take (m + 1)).drop j) ∨ (k = j ∧ trimL s = []) := by
            rcases Nat.lt_or_ge j k with h | h
            · obtain ⟨m, rfl⟩ : ∃ m, k = m + 1 := ⟨k - 1, by omega⟩
              obtain ⟨h1, h2⟩ := trim_step (by omega : j ≤ m) (by omega : m < s.length) hr
              cases hc : blkB s[m] with
              | true => exact .inl ⟨m, by omega, rfl, by omega, hc, h1 hc⟩
              | false => exact .inr (.inl ⟨m, by omega, rfl, by omega, hc, h2 hc⟩)
            · obtain rfl : k = j := by omega
              exact .inr (.inr ⟨rfl, by rw [← hr, trim_none]; rfl⟩)
          clear hr
          rcases key with ⟨m, hlt, rfl, hjm, hc, hr⟩ | ⟨m, hlt, rfl, hjm, hc, hr⟩ | ⟨rfl, hr⟩
          · have hltI : (j : Int) < ((m + 1 : Nat) : Int) := by omega
            have hx : Calls Tryd.prog 83 #[.int .u8 (((⟨s.toArray⟩ : ByteArray)[m]'hlt).toNat : Int)] wr fun e w' => e = .returned (.bool (blkB s[m])) ∧ w' = wr := blank_any s[m] wr
            rw [hc] at hx
            have hx' := Lib.hid hx
            have hr' := Lib.hid hr
            have hw := Lib.hid (show wrap64 (((m + 1 : Nat) : Int) - 1) = (m : Int) by unfold wrap64; omega)
            clear hx hc hr
            go_wp2_with (go_at_call 83; (with_reducible refine Calls.mono hx'.out ?_); rintro e w2 ⟨rfl, rfl⟩)
            exact ⟨⟨m, by omega, by omega, rfl, hr'.out, trivial⟩, by simp [intOf]⟩
          · have hltI : (j : Int) < ((m + 1 : Nat) : Int) := by omega
            have hx : Calls Tryd.prog 83 #[.int .u8 (((⟨s.toArray⟩ : ByteArray)[m]'hlt).toNat : Int)] wr fun e w' => e = .returned (.bool (blkB s[m])) ∧ w' = wr := blank_any s[m] wr
            rw [hc] at hx
            have hx' := Lib.hid hx
            have hr' := Lib.hid hr
            have hw := Lib.hid (show wrap64 (((m + 1 : Nat) : Int) - 1) = (m : Int) by unfold wrap64; omega)
            clear hx hc hr
            go_wp2_with (go_at_call 83; (with_reducible refine Calls.mono hx'.out ?_); rintro e w2 ⟨rfl, rfl⟩)
            go_ret
            exact ⟨by rw [hr'.out]; rw [cut_str]; rfl, hb1'.out⟩
          · have hnI2 : ¬ (k : Int) < (k : Int) := by omega
            have hr' := Lib.hid hr
            clear hr
            go_wp2
            go_ret
            exact ⟨by rw [hr'.out]; rfl, hb1'.out⟩
end Go.Proofs.YtabgpnieekcdhaaDoor
