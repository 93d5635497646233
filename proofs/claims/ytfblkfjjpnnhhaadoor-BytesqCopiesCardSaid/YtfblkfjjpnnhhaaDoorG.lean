import Derived.Test.YtfblkfjjpnnhhaaDoorF
import Derived.Deep.RegionHeld3
namespace Go.Proofs.YtfblkfjjpnnhhaaDoor
open Go.RowKit

/-! ## A copy that goes on for itself -/
def Apart (bs : List UInt8) (w : World) (e : Ending) (w' : World) : Prop :=
  ∃ b, e = .returned (.agg #[.slice (some ⟨b, 0, none⟩) bs.length bs.length, .int .i64 0, .int .i64 (bs.length : Int)]) ∧ Has w' b 5 (byts bs).toArray ∧ w.heap.size ≤ b ∧ Below w.heap.size w w'
set_option maxHeartbeats 800000 in
theorem apart_any (g r : Nat) (A : Option Addr) (cs : List UInt8) (s k : Nat) (w : World) (h : Stk w g r A cs s k) :
    Calls Tryd.prog 25 #[.pointer (some ⟨g, 0, none⟩)] w (Apart (rb cs s k) w) := by
  have c2 := h.c2
  have hlt := h.lt
  have h' := Lib.hid h
  clear h
  go_enter Tryd.func25, Tryd.ntmps25
  go_wp2
  have b1 := Has.new w 44 #[.slice none 0 0, .int .i64 0, .int .i64 0]
  have hB := (Below.refl w.heap.size w).alloc (Nat.le_refl _) (.cells #[.slice none 0 0, .int .i64 0, .int .i64 0] 44)
  obtain ⟨w1, hw1⟩ : ∃ w1, w.alloc (.cells #[.slice none 0 0, .int .i64 0, .int .i64 0] 44) = w1 := ⟨_, rfl⟩
  have z1 : w1.heap.size = w.heap.size + 1 := by rw [← hw1]; simp
  rw [hw1] at b1 hB ⊢
  have z1' := Lib.hid z1
  have h1 : Hid (Stk w1.drew g r A cs s k) := (h'.out.below hB).kept rfl (fun _ => rfl)
  have hB' : Hid (Below w.heap.size w w1.drew) := hB.drew
  have b1' : Hid (Has w1.drew w.heap.size _ _) := b1
  have d2 := h1.out.c2
  have gne : g ≠ w.heap.size := by omega
  clear z1 hw1 c2 h' hB b1
  go_region_held3 (fun w' => w'.cell? ⟨g, 2, none⟩ = some (.int .i64 (k : Int)))
    (first | exact d2 | exact hS2 | exact (World.cell?_of_block (a := ⟨g, 2, none⟩) ((((only_setCell w.heap.size 0 _ _).trans (only_setCell w.heap.size 1 _ _)).trans (only_setCell w.heap.size 2 _ _)).block g gne)).trans hS2)
    (first | (go_at_call 28; refine (first_any g r A cs s k k w1.drew h1.out (Nat.le_refl _)).mono ?_; rintro e w2 ⟨rfl, m2, hB2, z2⟩; have b2 := Lib.hid (b1'.out.below hB2 b1'.out.lt); have hB3 := Lib.hid (hB'.out.trans (hB2.mono hB'.out.size)); have m2' := Lib.hid m2; have z2' := Lib.hid z2; have hS2 := (h1.out.below hB2).c2; have e0 : w2.cell? ⟨w.heap.size, 0, none⟩ = some (.slice none 0 0) := b2.out.cell 0; have e1 : w2.cell? ⟨w.heap.size, 1, none⟩ = some (.int .i64 0) := b2.out.cell 1; have e2 : w2.cell? ⟨w.heap.size, 2, none⟩ = some (.int .i64 0) := b2.out.cell 2; have f0 : w2.frozen? ⟨w.heap.size, 0, none⟩ = false := b2.out.free 0; have f1 : w2.frozen? ⟨w.heap.size, 1, none⟩ = false := b2.out.free 1; have f2 : w2.frozen? ⟨w.heap.size, 2, none⟩ = false := b2.out.free 2; clear m2 hB2 z2))
  go_wp2
  have hF := ((b2.out.put 0 (.slice (some ⟨w1.heap.size, 0, none⟩) k k)).put 1 (.int .i64 0)).put 2 (.int .i64 (k : Int))
  have x0 := hF.cell 0
  have x1 := hF.cell 1
  have x2 := hF.cell 2
  refine bodyPost_ret (v := .agg #[.slice (some ⟨w1.heap.size, 0, none⟩) k k, .int .i64 0, .int .i64 (k : Int)]) (by simp [results, Tryd.results25, go_sem, x0, x1, x2]) rfl ?_
  have hne : w1.heap.size ≠ w.heap.size := by have := z1'.out; omega
  refine ⟨w1.heap.size, by rw [rb_length], ?_, by have := z1'.out; omega, ((hB3.out.setCell (Nat.le_refl _) _).setCell (Nat.le_refl _) _).setCell (Nat.le_refl _) _⟩
  exact ((m2'.out.other hne _).other hne _).other hne _
end Go.Proofs.YtfblkfjjpnnhhaaDoor
