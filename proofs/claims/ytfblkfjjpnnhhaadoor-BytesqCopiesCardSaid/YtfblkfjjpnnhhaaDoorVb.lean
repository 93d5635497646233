import Derived.Test.YtfblkfjjpnnhhaaDoorU
namespace Go.Proofs.YtfblkfjjpnnhhaaDoor
open Go.RowKit

/-! ## What the round of a law keeps -/
/-- Bytes do not lie in a box that holds no byte. -/
theorem Rd.off_box {W : World} {S : Nat → Prop} {A : Option Addr} {l : List UInt8} (h : Rd W S A l) {k : Nat} {t : TypeId} {cs : Array Value} (hk : Has W k t cs) (hc : ∀ u ∈ cs, ∀ b : UInt8, u ≠ byt b) : Rd W (fun j => S j ∧ j ≠ k) A l := fun hl => by
  obtain ⟨ad, e, hS, hb⟩ := h hl
  refine ⟨ad, e, ⟨hS, fun hne => ?_⟩, hb⟩
  have h0 := hb 0 _ (byts_at hl)
  have hk' : W.heap[k]? = some (.cells cs t (0, 0)) := hk
  have hbl : (ad.add 0).block = k := by rw [add_block_]; exact hne
  unfold World.cell? at h0
  rw [hbl, hk'] at h0
  simp only at h0
  split at h0
  · cases h0
  · exact hc _ (Array.mem_of_getElem? h0) _ rfl
theorem Fine.off_box {W : World} {S : Nat → Prop} {p : Part} (h : Fine W S p) {k room : Nat} {t : TypeId} {A : Option Addr} {n c : Nat} (hk : Has W k t #[.slice A n c, .int .i64 (room : Int)]) : Fine W (fun j => S j ∧ j ≠ k) p :=
  ⟨h.1.off_box hk (fun u hu b e => by
    subst e
    simp [byt] at hu), h.2⟩
end Go.Proofs.YtfblkfjjpnnhhaaDoor
