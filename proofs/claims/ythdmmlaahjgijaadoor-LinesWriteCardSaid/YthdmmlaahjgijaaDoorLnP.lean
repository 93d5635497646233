import Derived.Test.YthdmmlaahjgijaaDoorZ
import Derived.Deep.Slices
namespace Go.Proofs.YthdmmlaahjgijaaDoor
open Go.ChangeShapes Go.WideShapes Go.ChangeAt Go.RowKit Go.Deep

/-- Pieces of bytes, each read somewhere. -/
def LL (W : World) (A : Option Addr) (xs : List (List UInt8)) : Prop :=
  0 < xs.length → ∃ b o, A = some ⟨b, o, none⟩ ∧ b < W.heap.size ∧ ∀ i x, xs[i]? = some x → ∃ Ai ci, W.cell? ⟨b, o + i, none⟩ = some (.slice Ai x.length ci) ∧ x.length ≤ ci ∧ ci ≤ 9223372036854775807 ∧ Rd W (· < W.heap.size) Ai x
theorem rd_below {W W' : World} {A : Option Addr} {l : List UInt8} (h : Rd W (· < W.heap.size) A l) {B : Nat} (hb : Below B W W') (hB : W.heap.size ≤ B) : Rd W' (· < W'.heap.size) A l :=
  (h.kept (Kept.below (hb.mono hB) (fun _ h => h))).mono (fun b (h : b < W.heap.size) => Nat.lt_of_lt_of_le h hb.size)
/-! ## Pieces that came in, opened -/
section
variable {H : Type} {enc : TypeId × Value → H}
theorem bytes_val {W : World} {held : Bool} {fuel : Nat} {v : Value} {y : DataW H × List MemPlace} (h : DataW.trod enc Tryd.prog W 0 (fun _ => true) held fuel 22 [v] = some y) :
    ∃ (A : Option Addr) (l : List UInt8) (c : Nat), v = .slice A l.length c ∧ l.length ≤ c ∧ c ≤ 9223372036854775807 ∧ Rd W (· < W.heap.size) A l := by
  have h' := h
  rcases open_ints Tryd.underlying22 Tryd.underlying5 cells8 h with ⟨hcs, _⟩ | ⟨a, n, c, zs, hcs, _⟩
  · injection hcs with hcs
    exact ⟨none, [], 0, hcs, Nat.le_refl _, by omega, fun h => absurd h (by simp)⟩
  · injection hcs with hcs
    subst hcs
    obtain ⟨l, hl, hr, hc1, hc2⟩ := bytes_of h'
    unfold maxLen at hc2
    exact ⟨_, l, c, by rw [hl], by omega, by omega, hr⟩
theorem pick_list {α : Type} (P : Nat → α → Prop) : ∀ (n : Nat), (∀ i, i < n → ∃ d, P i d) → ∃ l : List α, l.length = n ∧ ∀ i d, l[i]? = some d → P i d
  | 0, _ => ⟨[], rfl, fun i d hd => by simp at hd⟩
  | n + 1, h => by
    obtain ⟨l, hl, hP⟩ := pick_list P n (fun i hi => h i (by omega))
    obtain ⟨d, hd⟩ := h n (by omega)
    refine ⟨l ++ [d], by simp [hl], fun i x hx => ?_⟩
    rw [List.getElem?_append] at hx
    split at hx
    · exact hP i x hx
    · obtain rfl : i = n := by
        have := (List.getElem?_eq_some_iff.1 hx).1
        simp at this
        omega
      simp [hl] at hx
      rw [← hx]; exact hd
theorem pieces_of {W : World} {held : Bool} {fuel : Nat} {A : Option Addr} {len cap : Nat} {y : DataW H × List MemPlace} (h : DataW.trod enc Tryd.prog W 0 (fun _ => true) held fuel 39 [.slice A len cap] = some y) :
    ∃ xs : List (List UInt8), len = xs.length ∧ LL W A xs ∧ len ≤ maxLen := by
  rcases open_slice Tryd.underlying39 h with ⟨hcs, _⟩ | ⟨a, len', cap', m, n, D, Pl, hcs, _, hl, hm, hmm, hx, hi⟩
  · injection hcs with hcs
    injection hcs with h1 h2 h3
    subst h2
    exact ⟨[], rfl, fun h => absurd h (by simp), Nat.zero_le _⟩
  · injection hcs with hcs
    injection hcs with h1 h2 h3
    subst h1; subst h2; subst h3
    have hC : Tryd.prog.cellsOf 22 = 1 := by kernel_rfl
    rw [hC] at hi
    have key : ∀ i, i < len → ∃ x : List UInt8, ∃ Ai ci, W.cell? (a.add i) = some (.slice Ai x.length ci) ∧ x.length ≤ ci ∧ ci ≤ 9223372036854775807 ∧ Rd W (· < W.heap.size) Ai x := by
      intro i hil
      have hlm : len ≤ m := by
        simp only at hmm
        split at hmm <;> omega
      obtain ⟨cs', hc, ht⟩ := hi i (by omega)
      obtain ⟨_, hcl, hat⟩ := World.cells?_some hc
      obtain ⟨c0, rfl⟩ : ∃ c0, cs' = [c0] := by
        match cs', hcl with
        | [x], _ => exact ⟨x, rfl⟩
      obtain ⟨Ai, x, ci, rfl, hx1, hx2, hr⟩ := bytes_val ht
      have := hat 0 (by omega)
      rw [add_add_, Nat.mul_one, Nat.add_zero] at this
      exact ⟨x, Ai, ci, by simpa using this, hx1, hx2, hr⟩
    obtain ⟨xs, hxl, hxs⟩ := pick_list _ len key
    refine ⟨xs, hxl.symm, fun h0 => ?_, by omega⟩
    obtain ⟨A0, c0, h1, _⟩ := hxs 0 _ (List.getElem?_eq_getElem h0)
    have hs : a.spot = none := by simpa [Addr.add] using World.cell?_spot h1
    have hbl := World.block_lt_of_cell? W _ h1
    obtain ⟨b, o, spot⟩ := a
    subst hs
    refine ⟨b, o, rfl, by simpa [Addr.add] using hbl, fun i x hx => ?_⟩
    obtain ⟨Ai, ci, h2, h3⟩ := hxs i x hx
    rw [add_zero_] at h2
    exact ⟨Ai, ci, h2, h3⟩
end
end Go.Proofs.YthdmmlaahjgijaaDoor
