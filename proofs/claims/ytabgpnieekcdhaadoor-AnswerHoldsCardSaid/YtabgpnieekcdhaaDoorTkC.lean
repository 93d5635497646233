import Derived.Test.YtabgpnieekcdhaaDoorTkCa
namespace Go.Proofs.YtabgpnieekcdhaaDoor
open Go.RowKit
attribute [local go_sem] Oper.semAt_some
theorem tkAll_take {p : UInt8 → Bool} {s : List UInt8} {j : Nat} (hj : j < s.length) (h : (s.take j).all p = true) : (s.take (j + 1)).all p = p s[j] := by
  rw [List.take_succ_eq_append_getElem hj, List.all_append, h]; simp
set_option maxRecDepth 100000 in
theorem all_tok (s : List UInt8) (w : World) (hs : s.length ≤ 1000000) : Calls Tryd.prog 75 #[.string ⟨s.toArray⟩, .func (.func 80) #[] #[]] w fun e w' => e = .returned (.bool (s.all tokB)) ∧ w' = w := by
  go_enter Tryd.func75, Tryd.ntmps75
  go_wp2
  go_loopw [8] (fun n wr => ∃ j : Nat, j ≤ s.length ∧ n = .int .i64 (j : Int) ∧ (s.take j).all tokB = true ∧ wr = w) (fun n _ => s.length - (intOf n).toNat)
  case atStart => exact ⟨0, Nat.zero_le _, rfl, rfl, rfl⟩
  case round =>
    obtain ⟨j, hj, rfl, ha, rfl⟩ := hrel
    have ha' := Lib.hid ha
    clear ha
    by_cases hlt : j < s.length
    · have hltI : (j : Int) < (s.length : Int) := by omega
      have hx : Calls Tryd.prog 80 #[.int .u8 (((⟨s.toArray⟩ : ByteArray)[j]'hlt).toNat : Int)] wr fun e w' => e = .returned (.bool (tokB s[j])) ∧ w' = wr := tok_any s[j] wr
      have ht := tkAll_take hlt ha'.out
      have hres : tokB s[j] = false → s.all tokB = false := fun h => by
        rw [List.all_eq_false]
        exact ⟨s[j], List.getElem_mem hlt, by simp [h]⟩
      cases hc : tokB s[j] with
      | true =>
        rw [hc] at hx ht
        have hx' := Lib.hid hx
        have ht' := Lib.hid ht
        clear hx ht hc hres
        go_wp2_with (go_at_call 80; (with_reducible refine Calls.mono hx'.out ?_); rintro e w2 ⟨rfl, rfl⟩)
        exact ⟨⟨j + 1, by omega, by go_num, ht'.out, trivial⟩, by simp [intOf]; omega⟩
      | false =>
        rw [hc] at hx
        have hx' := Lib.hid hx
        have hres' := Lib.hid (hres hc)
        clear hx ht hc hres
        go_wp2_with (go_at_call 80; (with_reducible refine Calls.mono hx'.out ?_); rintro e w2 ⟨rfl, rfl⟩)
        go_ret
        exact ⟨by rw [hres'.out]; rfl, rfl⟩
    · obtain rfl : j = s.length := by omega
      go_wp2
      go_ret
      refine ⟨?_, rfl⟩
      have := ha'.out
      rw [List.take_length] at this
      rw [this]
      rfl
set_option maxRecDepth 100000 in
theorem all_val (s : List UInt8) (w : World) (hs : s.length ≤ 1000000) : Calls Tryd.prog 75 #[.string ⟨s.toArray⟩, .func (.func 82) #[] #[]] w fun e w' => e = .returned (.bool (s.all valB)) ∧ w' = w := by
  go_enter Tryd.func75, Tryd.ntmps75
  go_wp2
  go_loopw [8] (fun n wr => ∃ j : Nat, j ≤ s.length ∧ n = .int .i64 (j : Int) ∧ (s.take j).all valB = true ∧ wr = w) (fun n _ => s.length - (intOf n).toNat)
  case atStart => exact ⟨0, Nat.zero_le _, rfl, rfl, rfl⟩
  case round =>
    obtain ⟨j, hj, rfl, ha, rfl⟩ := hrel
    have ha' := Lib.hid ha
    clear ha
    by_cases hlt : j < s.length
    · have hltI : (j : Int) < (s.length : Int) := by omega
      have hx : Calls Tryd.prog 82 #[.int .u8 (((⟨s.toArray⟩ : ByteArray)[j]'hlt).toNat : Int)] wr fun e w' => e = .returned (.bool (valB s[j])) ∧ w' = wr := val_any s[j] wr
      have ht := tkAll_take hlt ha'.out
      have hres : valB s[j] = false → s.all valB = false := fun h => by
        rw [List.all_eq_false]
        exact ⟨s[j], List.getElem_mem hlt, by simp [h]⟩
      cases hc : valB s[j] with
      | true =>
        rw [hc] at hx ht
        have hx' := Lib.hid hx
        have ht' := Lib.hid ht
        clear hx ht hc hres
        go_wp2_with (go_at_call 82; (with_reducible refine Calls.mono hx'.out ?_); rintro e w2 ⟨rfl, rfl⟩)
        exact ⟨⟨j + 1, by omega, by go_num, ht'.out, trivial⟩, by simp [intOf]; omega⟩
      | false =>
        rw [hc] at hx
        have hx' := Lib.hid hx
        have hres' := Lib.hid (hres hc)
        clear hx ht hc hres
        go_wp2_with (go_at_call 82; (with_reducible refine Calls.mono hx'.out ?_); rintro e w2 ⟨rfl, rfl⟩)
        go_ret
        exact ⟨by rw [hres'.out]; rfl, rfl⟩
    · obtain rfl : j = s.length := by omega
      go_wp2
      go_ret
      refine ⟨?_, rfl⟩
      have := ha'.out
      rw [List.take_length] at this
      rw [this]
      rfl
end Go.Proofs.YtabgpnieekcdhaaDoor
