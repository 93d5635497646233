import Derived.Test.YtfblkfjjpnnhhaaDoorUg
import Derived.Deep.Cut
namespace Go.Proofs.YtfblkfjjpnnhhaaDoor
open Go.RowKit

/-! ## What the three ways of a push share -/
/-- Where two fresh copies stand. -/
structure Two2 (w : World) (A : Option Addr) (n c room : Nat) (d : Deed) (g3 c3 g4 c4 : Nat) (W : World) : Prop where
  bx : Boxes w A n c room d W
  o3 : Own W 5 g3 c3 d.a.l
  o4 : Own W 5 g4 c4 d.b.l
  ne : g3 ≠ g4
  ge3 : w.heap.size + 3 ≤ g3
  ge4 : w.heap.size + 3 ≤ g4
  b : Below w.heap.size w W
theorem Grew.other {g k : Nat} {w w' : World} {t : TypeId} {cap : Nat} {l : List UInt8} (h : Grew g w w') (ho : Own w t k cap l) (hk : k ≠ g) : Own w' t k cap l := own_kept ho (h.block k ho.lt.1 hk)
theorem Grew.boxes {g : Nat} {w w0 w' : World} {A : Option Addr} {n c room : Nat} {d : Deed} (h : Grew g w w') (hb : Boxes w0 A n c room d w) (hg : w0.heap.size + 3 ≤ g) : Boxes w0 A n c room d w' :=
  ⟨(h.block _ hb.b0.lt (by omega)).trans hb.b0, (h.block _ hb.b1.lt (by omega)).trans hb.b1, (h.block _ hb.b2.lt (by omega)).trans hb.b2, Nat.le_trans hb.size h.size⟩
theorem Boxes.drew {w0 w : World} {A : Option Addr} {n c room : Nat} {d : Deed} (hb : Boxes w0 A n c room d w) : Boxes w0 A n c room d w.drew := ⟨hb.b0, hb.b1, hb.b2, hb.size⟩
theorem Boxes.only {g : Nat} {w w0 w' : World} {A : Option Addr} {n c room : Nat} {d : Deed} (h : Only g w w') (hb : Boxes w0 A n c room d w) (hg : w0.heap.size + 3 ≤ g) : Boxes w0 A n c room d w' :=
  ⟨(h.block _ (by omega)).trans hb.b0, (h.block _ (by omega)).trans hb.b1, (h.block _ (by omega)).trans hb.b2, by rw [h.size]; exact hb.size⟩
/-- These cells are bytes. -/
def Bytey (cur : Array Value) (n : Nat) : Prop := ∀ j, j < n → ∃ b : UInt8, cur[j]? = some (.int .u8 (b.toNat : Int))
theorem Own.bytey {W : World} {t : TypeId} {g cap : Nat} {l : List UInt8} (h : Own W t g cap l) : ∃ cur, Has W g t cur ∧ Bytey cur l.length := by
  rcases h.2 with ⟨h1, _⟩ | ⟨g', cap', cur, hv, _, hg, hnc, hcm, hcs, htk⟩
  · cases h1
  · injection hv with hv _ hc
    injection hv with hv
    injection hv with hv
    subst hv; subst hc
    refine ⟨cur, hg, fun j hj => ?_⟩
    have h2 := byts_at hj
    rw [← htk] at h2
    rw [List.getElem?_take] at h2
    split at h2
    · exact ⟨l[j], by rw [← Array.getElem?_toList]; exact h2⟩
    · cases h2
theorem Bytey.set {cur : Array Value} {n : Nat} (h : Bytey cur n) (k : Nat) (b : UInt8) : Bytey (cur.setIfInBounds k (.int .u8 (b.toNat : Int))) n := fun j hj => by
  obtain ⟨x, hx⟩ := h j hj
  by_cases hk : k = j
  · subst hk
    exact ⟨b, by rw [Array.getElem?_setIfInBounds_self_of_lt (Array.getElem?_eq_some_iff.1 hx).1]⟩
  · exact ⟨x, by rw [Array.getElem?_setIfInBounds_ne hk]; exact hx⟩
theorem Two2.grew {w W W' : World} {A : Option Addr} {n c room : Nat} {d : Deed} {g3 c3 g4 c4 g : Nat} (h : Two2 w A n c room d g3 c3 g4 c4 W) (k : Grew g W W') (h3 : g3 ≠ g) (h4 : g4 ≠ g) (hg : w.heap.size + 3 ≤ g) : Two2 w A n c room d g3 c3 g4 c4 W' :=
  ⟨k.boxes h.bx hg, k.other h.o3 h3, k.other h.o4 h4, h.ne, h.ge3, h.ge4, h.b.trans (k.below (by omega) h.b.size)⟩
theorem Two2.below {w W W' : World} {A : Option Addr} {n c room : Nat} {d : Deed} {g3 c3 g4 c4 : Nat} (h : Two2 w A n c room d g3 c3 g4 c4 W) (k : Below W.heap.size W W') : Two2 w A n c room d g3 c3 g4 c4 W' :=
  ⟨h.bx.below k, own_kept h.o3 (k.block _ h.o3.lt.1), own_kept h.o4 (k.block _ h.o4.lt.1), h.ne, h.ge3, h.ge4, h.b.trans (k.mono h.b.size)⟩
end Go.Proofs.YtfblkfjjpnnhhaaDoor
