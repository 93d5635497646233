import Derived.Test.YtfblkfjjpnnhhaaDoorP
namespace Go.Proofs.YtfblkfjjpnnhhaaDoor
open Go.RowKit

/-! ## Plays: too many calls, or no room -/
theorem plays_works (room : Int) (A : Option Addr) (c : Nat) (ds : List Deed) (w : World) (hds : Deeds w (· < w.heap.size) A ds) (hl : ds.length ≤ 140737488355328) (hT : Tab w) (hno : fewB 50 ds = false ∨ room < 0 ∨ 1048576 < room) :
    Calls Tryd.prog 3 #[.int .i64 room, .slice A ds.length c] w fun e w' => e = .returned (.bool true) ∧ Below w.heap.size w w' := by
  have hf := Lib.hid (few_any A (· < w.heap.size) ds ds.length c 50 w hds rfl hl (by omega))
  have hT' := Lib.hid hT
  generalize ds.length = n at hf
  clear hds hT
  cases hb : fewB 50 ds with
  | false =>
    rw [hb] at hf
    clear hno hb
    go_enter Tryd.func3, Tryd.ntmps3
    go_wp2_with (first | (go_at_call 7; refine hf.out.mono ?_; rintro e w1 ⟨rfl, q, rfl⟩) | (go_at_call 8; refine (works_any _ (hT'.out.below (below_draws (Below.refl _ _) _) hT'.out.lt)).mono ?_; rintro e w2 ⟨rfl, hb⟩))
    go_ret
    exact ⟨rfl, below_of_drewN hb⟩
  | true =>
    rw [hb] at hf
    rw [hb] at hno
    have hno2 : room < 0 ∨ 1048576 < room := by simpa using hno
    have hmk := Lib.hid (fun (q : Nat) => new_no room (w.drewN q) (hT'.out.below (below_draws (Below.refl _ _) q) hT'.out.lt) hno2)
    clear hno hb
    by_cases h0 : room < 0
    · clear hno2
      go_enter Tryd.func3, Tryd.ntmps3
      go_wp2_with (first | (go_at_call 7; refine hf.out.mono ?_; rintro e w1 ⟨rfl, q, rfl⟩) | (go_at_call 9; refine (hmk.out _).mono ?_; rintro e w1 ⟨rfl, rfl⟩) | (go_at_call 10; refine (num_any _ _).mono ?_; rintro e w' ⟨rfl, rfl⟩) | (go_at_call 8; refine (works_any _ (hT'.out.below (below_draws (Below.refl _ _) _) hT'.out.lt)).mono ?_; rintro e w2 ⟨rfl, hb⟩))
      go_ret
      exact ⟨rfl, below_of_drewN hb⟩
    · have h1 : 1048576 < room := by omega
      have h2 : 0 ≤ room := by omega
      clear hno2
      go_enter Tryd.func3, Tryd.ntmps3
      go_wp2_with (first | (go_at_call 7; refine hf.out.mono ?_; rintro e w1 ⟨rfl, q, rfl⟩) | (go_at_call 9; refine (hmk.out _).mono ?_; rintro e w1 ⟨rfl, rfl⟩) | (go_at_call 10; refine (num_any _ _).mono ?_; rintro e w' ⟨rfl, rfl⟩) | (go_at_call 8; refine (works_any _ (hT'.out.below (below_draws (Below.refl _ _) _) hT'.out.lt)).mono ?_; rintro e w2 ⟨rfl, hb⟩))
      go_ret
      exact ⟨rfl, below_of_drewN hb⟩
end Go.Proofs.YtfblkfjjpnnhhaaDoor
