import Derived.Test.YtkpbdamkdlbhmaaDoorZ
import Derived.Test.YtkpbdamkdlbhmaaDoorKl
import Derived.Deep.Slices
namespace Go.Proofs.YtkpbdamkdlbhmaaDoor
open Go.ChangeShapes Go.WideShapes Go.ChangeAt Go.RowKit Go.Deep

/-! ## Pieces that came in, opened -/
section
variable {H : Type} {enc : TypeId × Value → H}
theorem bytes_val {W : World} {held : Bool} {fuel : Nat} {v : Value} {y : DataW H × List MemPlace} (h : DataW.trod enc Tryd.prog W 0 (fun _ => true) held fuel 22 [v] = some y) :
    ∃ (A : Option Addr) (l : List UInt8) (c : Nat), v = .slice A l.length c ∧ Rd W (· < W.heap.size) A l := by
  have h' := h
  rcases open_ints Tryd.underlying22 Tryd.underlying5 cells8 h with ⟨hcs, _⟩ | ⟨a, n, c, zs, hcs, _⟩
  · injection hcs with hcs
    exact ⟨none, [], 0, hcs, fun h => absurd h (by simp)⟩
  · injection hcs with hcs
    subst hcs
    obtain ⟨l, hl, hr, _⟩ := bytes_of h'
    exact ⟨_, l, c, by rw [hl], hr⟩
theorem pick_list {α : Type} (P : Nat → α → Prop) : ∀ (n : Nat), (∀ i, i < n → ∃ d, P i d) → ∃ l : List α, l.length = n ∧ ∀ i d, l[i]? = some d → P i d
  | 0, _ => ⟨[], rfl, fun i d hd => by simp at hd⟩
  | n + 1, h => by
    obtain ⟨l, hl, hP⟩ := pick_list P n (fun i hi => h i (by omega))
    obtain ⟨d, hd⟩ := h n (by omega)
    refine ⟨l ++ [d], by simp [hl], fun i x hx => ?_⟩
    rw [List.getElem?_append] at hx
    split at hx
    · exact hP i x hx
    · obtain rfl : i = n := by
        have := (List.getElem?_eq_some_iff.1 hx).1
        simp at this
        omega
      simp [hl] at hx
      rw [← hx]; exact hd
theorem pieces_of {W : World} {held : Bool} {fuel : Nat} {A : Option Addr} {len cap : Nat} {y : DataW H × List MemPlace} (h : DataW.trod enc Tryd.prog W 0 (fun _ => true) held fuel 39 [.slice A len cap] = some y) :
    ∃ xs : List (List UInt8), len = xs.length ∧ LL W A xs ∧ len ≤ maxLen := by
  rcases open_slice Tryd.underlying39 h with ⟨hcs, _⟩ | ⟨a, len', cap', m, n, D, Pl, hcs, _, hl, hm, hmm, hx, hi⟩
  · injection hcs with hcs
    injection hcs with h1 h2 h3
    subst h2
    exact ⟨[], rfl, fun h => absurd h (by simp), Nat.zero_le _⟩
  · injection hcs with hcs
    injection hcs with h1 h2 h3
    subst h1; subst h2; subst h3
    have hC : Tryd.prog.cellsOf 22 = 1 := by kernel_rfl
    rw [hC] at hi
    have key : ∀ i, i < len → ∃ x : List UInt8, ∃ Ai ci, W.cell? (a.add i) = some (.slice Ai x.length ci) ∧ Rd W (· < W.heap.size) Ai x := by
      intro i hil
      have hlm : len ≤ m := by
        simp only at hmm
        split at hmm <;> omega
      obtain ⟨cs', hc, ht⟩ := hi i (by omega)
      obtain ⟨_, hcl, hat⟩ := World.cells?_some hc
      obtain ⟨c0, rfl⟩ : ∃ c0, cs' = [c0] := by
        match cs', hcl with
        | [x], _ => exact ⟨x, rfl⟩
      obtain ⟨Ai, x, ci, rfl, hr⟩ := bytes_val ht
      have := hat 0 (by omega)
      rw [add_add_, Nat.mul_one, Nat.add_zero] at this
      exact ⟨x, Ai, ci, by simpa using this, hr⟩
    obtain ⟨xs, hxl, hxs⟩ := pick_list _ len key
    refine ⟨xs, hxl.symm, fun h0 => ?_, by omega⟩
    obtain ⟨A0, c0, h1, _⟩ := hxs 0 _ (List.getElem?_eq_getElem h0)
    have hs : a.spot = none := by simpa [Addr.add] using World.cell?_spot h1
    have hbl := World.block_lt_of_cell? W _ h1
    obtain ⟨b, o, spot⟩ := a
    subst hs
    refine ⟨b, o, rfl, by simpa [Addr.add] using hbl, fun i x hx => ?_⟩
    obtain ⟨Ai, ci, h2, h3⟩ := hxs i x hx
    rw [add_zero_] at h2
    exact ⟨Ai, ci, h2, h3⟩
end
end Go.Proofs.YtkpbdamkdlbhmaaDoor
