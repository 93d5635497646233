import Derived.Test.YthdmmlaahjgijaaDoorLnC
import Derived.Deep.RegionHeld3
namespace Go.Proofs.YthdmmlaahjgijaaDoor
open Go.RowKit Go.Shelf

/-! ## The line under way, as a line -/
theorem line_any (sp n0 : Nat) (pp mm vb : Value) (any half long : Bool) (u : List UInt8) (w : World) (hs : Has w sp 90 #[pp, .bool any, vb, .bool long, mm, .bool half]) (hv : Bs w n0 vb u) :
    Calls Tryd.prog 64 #[.pointer (some ⟨sp, 2, none⟩)] w fun e w' => e = .returned (.agg #[.string ⟨u.toArray⟩, .bool long]) ∧ Below w.heap.size w w' := by
  obtain ⟨A, cb, rfl, hr⟩ := hv.shape
  obtain ⟨m, hm⟩ : ∃ m, u.length = m := ⟨_, rfl⟩
  have hall : Hid (∀ W, Below w.heap.size w W → W.cell? ⟨sp, 2, none⟩ = some (.slice A m cb) ∧ W.cell? ⟨sp, 3, none⟩ = some (.bool long) ∧ (convert 22 9 (.slice A m cb)).run Tryd.prog W = .ok (.string ⟨u.toArray⟩) W) := Lib.hid (fun W hb => by
    refine ⟨?_, (hs.below hb hs.lt).cell 3, ?_⟩
    · rw [← hm]; exact (hs.below hb hs.lt).cell 2
    · have := (hr.kept (Kept.below hb (fun b h => h.2))).text (P := Tryd.prog) 22 9 5 cb Tryd.underlying22 Tryd.underlying5 Tryd.underlying9
      rwa [hm] at this)
  have hb1 := (Below.refl w.heap.size w).alloc (Nat.le_refl _) (.cells #[.string ⟨#[]⟩, .bool false] 70)
  have hbd := Lib.hid hb1.drew
  have hbs := Lib.hid (fun x y => (((Below.refl w.heap.size w).alloc (Nat.le_refl _) (.cells #[x, y] 70)).drew))
  have k2 := (Has.new w 70 #[.string ⟨u.toArray⟩, .bool long]).drew
  have x0 := k2.cell 0
  have x1 := k2.cell 1
  clear hs hv hr hm hb1 k2
  go_enter Tryd.func64, Tryd.ntmps64
  go_wp2_with fail
  go_region_held3 (fun W => W.cell? ⟨sp, 2, none⟩ = some (.slice A m cb) ∧ W.cell? ⟨sp, 3, none⟩ = some (.bool long) ∧ (convert 22 9 (.slice A m cb)).run Tryd.prog W = .ok (.string ⟨u.toArray⟩) W)
    (first
    | with_reducible exact hall.out _ hbd.out
    | with_reducible exact hall.out _ (hbs.out _ _)
    | fail)
    (first | fail)
  all_goals
    go_wp2
    refine bodyPost_ret (v := .agg #[.string ⟨u.toArray⟩, .bool long]) (by simp [results, Tryd.results64, go_sem, x0, x1]) rfl ⟨rfl, hbs.out _ _⟩
end Go.Proofs.YthdmmlaahjgijaaDoor
