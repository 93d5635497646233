import Derived.Test.YtdkmajmmhngdpaaDoorFdF
import Derived.ScopeJumps
namespace Go.Proofs.YtdkmajmmhngdpaaDoor
open Go.RowKit Go.Maps

/-! ## Line -/
theorem wp_scope_onF {P : Program} {a : Act} {w : World} {Q : Exit → Act → World → Prop} {c rest : Code} (l : Nat) (hf : findLabel c l = some rest)
    (first : c.wp P (Exit.jump l (fun a w => rest.wp P (Exit.noGoto Q) a w) Q) a w) : (Code.scope c).wp P Q a w := by
  refine wp_scope_jumps l (fun a w => rest.wp P (Exit.noGoto Q) a w) (fun _ _ => 0) hf first (fun a w h => wp_mono h ?_)
  intro e a w hq
  cases e <;> first | exact hq.elim | exact hq
def lineOf (f : Int × List UInt8 × List UInt8) : List UInt8 × Int := if sayF f = true then (lineF f, 0) else ([], 2)
set_option maxRecDepth 100000 in
theorem lineF_any (f : Int × List UInt8 × List UInt8) (w : World) (h1 : f.2.1.length ≤ 1000000) (h2 : f.2.2.length ≤ 1000000) (hN : NamesT w) :
    Calls Tryd.prog 28 #[fieldV f] w fun e w' => e = .returned (.tuple #[.string ⟨(lineOf f).1.toArray⟩, .int .i64 (lineOf f).2]) ∧ Below w.heap.size w w' := by
  obtain ⟨ki, nm, vl⟩ := f
  simp only at h1 h2
  unfold fieldV
  simp only
  have hb1 : Below w.heap.size w ((w.alloc (.cells #[.int .i64 ki, .string ⟨nm.toArray⟩, .string ⟨vl.toArray⟩] 37)).alloc (.cells (undCells (ki, nm, vl) []) 81)) := ((Below.refl _ _).alloc (Nat.le_refl _) _).alloc (by simp) _
  have kU := Has.new (w.alloc (.cells #[.int .i64 ki, .string ⟨nm.toArray⟩, .string ⟨vl.toArray⟩] 37)) 81 (undCells (ki, nm, vl) [])
  simp only [World.size_alloc] at kU
  obtain ⟨w1, hw1⟩ : ∃ w1, (w.alloc (.cells #[.int .i64 ki, .string ⟨nm.toArray⟩, .string ⟨vl.toArray⟩] 37)).alloc (.cells (undCells (ki, nm, vl) []) 81) = w1 := ⟨_, rfl⟩
  have z1 : w1.heap.size = w.heap.size + 1 + 1 := by rw [← hw1]; simp
  rw [hw1] at hb1 kU
  have hw1' := Lib.hid hw1
  have hsy := Lib.hid (sayF_any (w.heap.size + 1) (ki, nm, vl) [] w1 kU h1 (hN.below hb1))
  have kU' := Lib.hid kU
  have hb1' := Lib.hid hb1
  have z1' := Lib.hid z1
  clear hw1 hb1 kU z1 hN
  have hlo : lineOf (ki, nm, vl) = if sayF (ki, nm, vl) = true then (lineF (ki, nm, vl), 0) else ([], 2) := rfl
  have hlo' := Lib.hid hlo
  clear hlo
  obtain ⟨sy, hsye⟩ : ∃ sy, sayF (ki, nm, vl) = sy := ⟨_, rfl⟩
  unfold SayF at hsy
  rw [hsye] at hsy hlo'
  clear hsye
  cases sy
  · rw [if_neg (by decide)] at hlo'
    rw [hlo'.out]
    go_enter Tryd.func28, Tryd.ntmps28
    go_wp2
    refine wp_scope_onF 0 rfl ?_
    go_upto_region 2 with (fail)
    rw [show (w.alloc (.cells #[.int .i64 ki, .string ⟨nm.toArray⟩, .string ⟨vl.toArray⟩] 37)).alloc (.cells #[.int .i64 ki, .string ⟨nm.toArray⟩, .string ⟨vl.toArray⟩, .string ⟨#[]⟩] 81) = w1 from hw1'.out]
    go_wp2_with (go_at_call 58; (with_reducible refine Calls.mono hsy.out ?_); rintro e w2 ⟨rfl, hb2⟩; have hb2' := Lib.hid hb2; clear hb2)
    go_step3
    refine ⟨rfl, ?_⟩
    go_wp2
    try rw [Exit.noGoto_ret]
    go_ret2
    exact ⟨rfl, hb1'.out.trans (hb2'.out.mono hb1'.out.size)⟩
  · rw [if_pos rfl] at hlo'
    rw [hlo'.out]
    go_enter Tryd.func28, Tryd.ntmps28
    go_wp2
    refine wp_scope_onF 0 rfl ?_
    go_upto_region 2 with (fail)
    rw [show (w.alloc (.cells #[.int .i64 ki, .string ⟨nm.toArray⟩, .string ⟨vl.toArray⟩] 37)).alloc (.cells #[.int .i64 ki, .string ⟨nm.toArray⟩, .string ⟨vl.toArray⟩, .string ⟨#[]⟩] 81) = w1 from hw1'.out]
    go_wp2_with (first
      | (go_at_call 58; (with_reducible refine Calls.mono hsy.out ?_); rintro e w2 ⟨rfl, hb2⟩; have hb2' := Lib.hid hb2; have hwr := Lib.hid (writeF_any (w.heap.size + 1) (w.heap.size + 1) (ki, nm, vl) [] w2 (kU'.out.below hb2 kU'.out.lt) h1 h2 (Nat.le_refl _)); clear hb2)
      | (go_at_call 59; (with_reducible refine Calls.mono hwr.out ?_); rintro e w3 ⟨rfl, hk3, hb3⟩; have x3 : w3.cell? ⟨w.heap.size + 1, 3, none⟩ = some (.string ⟨(lineF (ki, nm, vl)).toArray⟩) := hk3.cell 3; have hb3' := Lib.hid hb3; clear hk3 hb3))
    simp only [Exit.jump]
    go_ret2
    exact ⟨rfl, hb1'.out.trans ((hb2'.out.mono hb1'.out.size).trans (hb3'.out.mono (by omega)))⟩
end Go.Proofs.YtdkmajmmhngdpaaDoor
