import Derived.Test.YtajdlkohnafbeaaVc
import Derived.Test.YtajdlkohnafbeaaO
import Derived.Test.YtajdlkohnafbeaaY
namespace Go.Proofs.Ytajdlkohnafbeaa
open Go.ChangeShapes Go.WideShapes Go.ChangeAt Go.RowKit Go.Deep

/-! ## A slice of calls, opened -/
section
variable {H : Type} {enc : TypeId × Value → H}
theorem deed_choose {α : Type} (P : Nat → α → Prop) : ∀ (n : Nat), (∀ i, i < n → ∃ d, P i d) → ∃ l : List α, l.length = n ∧ ∀ i d, l[i]? = some d → P i d
  | 0, _ => ⟨[], rfl, fun i d hd => by simp at hd⟩
  | n + 1, h => by
    obtain ⟨l, hl, hP⟩ := deed_choose P n (fun i hi => h i (by omega))
    obtain ⟨d, hd⟩ := h n (by omega)
    refine ⟨l ++ [d], by simp [hl], fun i x hx => ?_⟩
    rw [List.getElem?_append] at hx
    split at hx
    · exact hP i x hx
    · obtain rfl : i = n := by
        have := (List.getElem?_eq_some_iff.1 hx).1
        simp at this
        omega
      simp [hl] at hx
      rw [← hx]; exact hd
theorem three {α : Type} {l : List α} (h : l.length = 3) : ∃ a b c, l = [a, b, c] := by
  match l, h with
  | [a, b, c], _ => exact ⟨a, b, c, rfl⟩
/-- What three fields tell is a call. -/
theorem deed_of {W : World} {held : Bool} {fuel : Nat} {v0 v1 v2 : Value} {y0 y1 y2 : DataW H × List MemPlace} (h0 : DataW.trod enc Try.prog W 0 (fun _ => true) held fuel 3 [v0] = some y0) (h1 : DataW.trod enc Try.prog W 0 (fun _ => true) held fuel 3 [v1] = some y1)
    (h2 : DataW.trod enc Try.prog W 0 (fun _ => true) held fuel 22 [v2] = some y2) : ∃ d : Deed, v0 = .int .i64 d.what ∧ v1 = .int .i64 d.val ∧ v2 = .int .u64 (d.far : Int) := by
  obtain ⟨n0, e0, _, b0⟩ := DataW.trod_int Try.underlying3 h0
  obtain ⟨n1, e1, _, b1⟩ := DataW.trod_int Try.underlying3 h1
  obtain ⟨n2, e2, _, b2⟩ := DataW.trod_int Try.underlying22 h2
  injection e0 with e0
  injection e1 with e1
  injection e2 with e2
  have c2 := bounds_u64 b2
  obtain ⟨k, rfl⟩ := Int.eq_ofNat_of_zero_le c2.1
  exact ⟨⟨n0, n1, k⟩, e0, e1, e2⟩
theorem add_at (b o i : Nat) : (⟨b, o, none⟩ : Addr).add i = ⟨b, o + i, none⟩ := by unfold Addr.add; split <;> simp_all
/-- A slice of calls, opened. -/
theorem deeds_of {W : World} {held : Bool} {fuel : Nat} {v : Value} {A : Option Addr} {len cap : Nat} {y : DataW H × List MemPlace} (hv : v = .slice A len cap) (h : DataW.trod enc Try.prog W 0 (fun _ => true) held fuel 23 [v] = some y) :
    ∃ ds : List Deed, ds.length = len ∧ Deeds W A ds := by
  subst hv
  rcases open_slice Try.underlying23 h with ⟨hcs, _⟩ | ⟨a, n, c, m, fu, D, Pl, hcs, _, hl, hm, hmm, hx, hi⟩
  · injection hcs with hcs
    injection hcs with h1 h2 h3
    subst h1; subst h2
    exact ⟨[], rfl, fun h => absurd h (by simp)⟩
  · injection hcs with hcs
    injection hcs with h1 h2 h3
    subst h1; subst h2
    simp only [if_true] at hmm
    subst hmm
    have hC : Try.prog.cellsOf 38 = 3 := by kernel_rfl
    rw [hC] at hi
    have k1 : Try.prog.cellsOf 3 = 1 := by kernel_rfl
    have k2 : Try.prog.cellsOf 22 = 1 := by kernel_rfl
    have key : ∀ i, i < len → ∃ d : Deed, W.cell? (a.add (i * 3)) = some (.int .i64 d.what) ∧ W.cell? ((a.add (i * 3)).add 1) = some (.int .i64 d.val) ∧ W.cell? ((a.add (i * 3)).add 2) = some (.int .u64 (d.far : Int)) := by
      intro i hil
      obtain ⟨cs', hc, ht⟩ := hi i (by omega)
      obtain ⟨_, hcl, hat⟩ := World.cells?_some hc
      obtain ⟨c0, c1, c2, rfl⟩ := three hcl
      obtain ⟨y0, y1, y2, k, hy, _, h0, h1, h2⟩ := trod_struct3 Try.underlying38 ht
      obtain ⟨d, e0, e1, e2⟩ := deed_of (by simpa [k1] using h0) (by simpa [k1] using h1) (by simpa [k2] using h2)
      refine ⟨d, ?_, ?_, ?_⟩
      · have := hat 0 (by omega); simpa [e0, Addr.add] using this
      · have := hat 1 (by omega); simpa [e1] using this
      · have := hat 2 (by omega); simpa [e2] using this
    obtain ⟨ds, hdl, hds⟩ := deed_choose _ len key
    subst hdl
    refine ⟨ds, rfl, fun h0 => ?_⟩
    have h1 := (hds 0 _ (List.getElem?_eq_getElem h0)).1
    have hs : a.spot = none := by simpa [Addr.add] using World.cell?_spot h1
    have hbl := World.block_lt_of_cell? W _ h1
    obtain ⟨b, o, spot⟩ := a
    subst hs
    refine ⟨b, o, rfl, by simpa [Addr.add] using hbl, fun i d hd => ?_⟩
    have := hds i d hd
    simp only [add_at] at this
    exact this
end
end Go.Proofs.Ytajdlkohnafbeaa
