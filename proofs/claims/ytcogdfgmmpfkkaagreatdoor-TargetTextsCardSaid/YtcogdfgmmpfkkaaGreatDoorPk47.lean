import Derived.Test.YtcogdfgmmpfkkaaGreatDoorPk46
import Derived.Deep.Cut
namespace Go.Proofs.YtcogdfgmmpfkkaaGreatDoor
open Go.RowKit
attribute [local go_sem] Oper.semAt_some
attribute [local go_sem] wideF_fn wideF_depth wideF_round

/-! ## The law of TargetTexts (written by gen11q.py) -/
def O4 (A1 A2 B1 B2 : Option Addr) (c1 c2 d1 d2 n1 n2 o1 o2 : Nat) (m : Int) (w : World) : World := (((w.alloc (.cells #[.slice A1 n1 c1, .slice A2 n2 c2] 26)).alloc (.cells #[.slice B1 o1 d1, .slice B2 o2 d2] 26)).alloc (.cells #[.int .i64 m] 3)).alloc (.cells #[.bool false] 4)
def AxQ (F : Nat → Act) (x : Nat) (a' : Act) (_ : World) : Prop := a' = F x
set_option maxRecDepth 100000 in
set_option maxHeartbeats 8000000 in
theorem texts_far (hP : TgProg) (A1 A2 B1 B2 : Option Addr) (c1 c2 d1 d2 : Nat) (t o : TgL) (key : List UInt8) (m : Int) (w : World) (ha : ArgT t) (hb : ArgT o) (h : ¬ (fewB t = true ∧ fewB o = true ∧ key.length ≤ 60)) (hT : TabT w) (hx : Txs w A1 t.1) (hq : Prs w A2 t.2) (hy : Txs w B1 o.1) (hr : Prs w B2 o.2) : Calls Tryz.prog 4 #[.agg #[.slice A1 t.1.length c1, .slice A2 t.2.length c2], .agg #[.slice B1 o.1.length d1, .slice B2 o.2.length d2], .string ⟨key.toArray⟩, .int .i64 m] w (BoolR true w) := by
  unfold BoolR
  have hT' := Lib.hid hT
  have hfa := Lib.hid (fun W (k1 : Txs W A1 t.1) (k2 : Prs W A2 t.2) => few_any A1 A2 c1 c2 t W ha k1 k2)
  have hfb := Lib.hid (fun W (k1 : Txs W B1 o.1) (k2 : Prs W B2 o.2) => few_any B1 B2 d1 d2 o W hb k1 k2)
  unfold BoolR at hfa hfb
  have hkt := (((Has.new w 26 #[.slice A1 t.1.length c1, .slice A2 t.2.length c2]).alloc (.cells #[.slice B1 o.1.length d1, .slice B2 o.2.length d2] 26)).alloc (.cells #[.int .i64 m] 3)).alloc (.cells #[.bool false] 4)
  have hko := ((Has.new (w.alloc (.cells #[.slice A1 t.1.length c1, .slice A2 t.2.length c2] 26)) 26 #[.slice B1 o.1.length d1, .slice B2 o.2.length d2]).alloc (.cells #[.int .i64 m] 3)).alloc (.cells #[.bool false] 4)
  have hkm := (Has.new ((w.alloc (.cells #[.slice A1 t.1.length c1, .slice A2 t.2.length c2] 26)).alloc (.cells #[.slice B1 o.1.length d1, .slice B2 o.2.length d2] 26)) 3 #[.int .i64 m]).alloc (.cells #[.bool false] 4)
  have hkr := Has.new (((w.alloc (.cells #[.slice A1 t.1.length c1, .slice A2 t.2.length c2] 26)).alloc (.cells #[.slice B1 o.1.length d1, .slice B2 o.2.length d2] 26)).alloc (.cells #[.int .i64 m] 3)) 4 #[.bool false]
  have hal : Below w.heap.size w ((((w.alloc (.cells #[.slice A1 t.1.length c1, .slice A2 t.2.length c2] 26)).alloc (.cells #[.slice B1 o.1.length d1, .slice B2 o.2.length d2] 26)).alloc (.cells #[.int .i64 m] 3)).alloc (.cells #[.bool false] 4)) := ((((Below.refl w.heap.size w).alloc (Nat.le_refl _) _).alloc (by simp) _).alloc (by simp; omega) _).alloc (by simp; omega) _
  simp only [World.size_alloc] at hko hkm hkr
  obtain ⟨w1, hw1⟩ : ∃ X, (((w.alloc (.cells #[.slice A1 t.1.length c1, .slice A2 t.2.length c2] 26)).alloc (.cells #[.slice B1 o.1.length d1, .slice B2 o.2.length d2] 26)).alloc (.cells #[.int .i64 m] 3)).alloc (.cells #[.bool false] 4) = X := ⟨_, rfl⟩
  rw [hw1] at hkt hko hkm hkr hal
  have hw1' := Lib.hid hw1
  have hx1 := Lib.hid (hx.below hal)
  have hq1 := Lib.hid (hq.below hal)
  have hy1 := Lib.hid (hy.below hal)
  have hr1 := Lib.hid (hr.below hal)
  have hB1 := Lib.hid hal
  have kt1 := Lib.hid hkt
  have ko1 := Lib.hid hko
  have km1 := Lib.hid hkm
  have kr1 := Lib.hid hkr
  have t10 : w1.cell? ⟨w.heap.size, 0, none⟩ = some (.slice A1 t.1.length c1) := hkt.cell 0
  have t11 : w1.cell? ⟨w.heap.size, 1, none⟩ = some (.slice A2 t.2.length c2) := hkt.cell 1
  clear hw1 hkt hko hkm hkr hal hx hq hy hr hT
  generalize t.1.length = n1 at *
  generalize t.2.length = n2 at *
  generalize o.1.length = o1 at *
  generalize o.2.length = o2 at *
  cases hf : fewB t with
  | false =>
    rw [hf] at hfa
    clear h hf ha hb
    go_enter Tryz.func4, Tryz.ntmps4
    go_upto_region 1 with (fail)
    rw [hw1'.out]
    go_wp2_with (first
      | (go_at_call 15; (with_reducible refine Calls.mono (hfa.out _ hx1.out hq1.out) ?_); rintro e w2 ⟨rfl, hb2⟩; have hB2 := Lib.hid (below_on hB1.out hb2); have hx2 := Lib.hid (hx1.out.below hb2); have hq2 := Lib.hid (hq1.out.below hb2); have hy2 := Lib.hid (hy1.out.below hb2); have hr2 := Lib.hid (hr1.out.below hb2); have kt2 := kt1.out.below hb2 kt1.out.lt; have ko2 := ko1.out.below hb2 ko1.out.lt; have km2 := Lib.hid (km1.out.below hb2 km1.out.lt); have kr2 := kr1.out.below hb2 kr1.out.lt; have t20 : w2.cell? ⟨w.heap.size + 1, 0, none⟩ = some (.slice B1 o1 d1) := ko2.cell 0; have t21 : w2.cell? ⟨w.heap.size + 1, 1, none⟩ = some (.slice B2 o2 d2) := ko2.cell 1; have kt2' := Lib.hid kt2; have ko2' := Lib.hid ko2; have kr2' := Lib.hid kr2; have r20 := kr2.cell 0; have r21 := kr2.free 0; clear hb2 kt2 ko2 kr2)
      | (go_at_call 6; (with_reducible refine Calls.mono (works_any hP _ (hT'.out.below hB2.out)) ?_); rintro e w4 ⟨rfl, hb4⟩; have hB4 := Lib.hid (below_on hB2.out hb4); have kr4 := kr2'.out.below hb4 kr2'.out.lt; have r40 := kr4.cell 0; have r41 := kr4.free 0; have rr4 := (kr4.put 0 (.bool true)).cell 0; have kr4' := Lib.hid kr4; clear hb4 kr4))
    refine ⟨rfl, .bool true, ?_, rfl, hB4.out.setCell (p := ⟨w.heap.size + 1 + 1 + 1, 0, none⟩) (by simp; omega) _⟩
    simp [results, Tryz.results4, go_sem, rr4]
  | true =>
    rw [hf] at hfa
    cases hg : fewB o with
    | false =>
      rw [hg] at hfb
      clear h hf hg ha hb
      go_enter Tryz.func4, Tryz.ntmps4
      go_upto_region 1 with (fail)
      rw [hw1'.out]
      go_wp2_with (first
        | (go_at_call 15; (with_reducible refine Calls.mono (hfa.out _ hx1.out hq1.out) ?_); rintro e w2 ⟨rfl, hb2⟩; have hB2 := Lib.hid (below_on hB1.out hb2); have hx2 := Lib.hid (hx1.out.below hb2); have hq2 := Lib.hid (hq1.out.below hb2); have hy2 := Lib.hid (hy1.out.below hb2); have hr2 := Lib.hid (hr1.out.below hb2); have kt2 := kt1.out.below hb2 kt1.out.lt; have ko2 := ko1.out.below hb2 ko1.out.lt; have km2 := Lib.hid (km1.out.below hb2 km1.out.lt); have kr2 := kr1.out.below hb2 kr1.out.lt; have t20 : w2.cell? ⟨w.heap.size + 1, 0, none⟩ = some (.slice B1 o1 d1) := ko2.cell 0; have t21 : w2.cell? ⟨w.heap.size + 1, 1, none⟩ = some (.slice B2 o2 d2) := ko2.cell 1; have kt2' := Lib.hid kt2; have ko2' := Lib.hid ko2; have kr2' := Lib.hid kr2; have r20 := kr2.cell 0; have r21 := kr2.free 0; clear hb2 kt2 ko2 kr2)
        | (go_at_call 15; (with_reducible refine Calls.mono (hfb.out _ hy2.out hr2.out) ?_); rintro e w3 ⟨rfl, hb3⟩; have hB3 := Lib.hid (below_on hB2.out hb3); have hx3 := Lib.hid (hx2.out.below hb3); have hq3 := Lib.hid (hq2.out.below hb3); have hy3 := Lib.hid (hy2.out.below hb3); have hr3 := Lib.hid (hr2.out.below hb3); have kt3 := kt2'.out.below hb3 kt2'.out.lt; have ko3 := Lib.hid (ko2'.out.below hb3 ko2'.out.lt); have km3 := Lib.hid (km2.out.below hb3 km2.out.lt); have kr3 := kr2'.out.below hb3 kr2'.out.lt; have t30 : w3.cell? ⟨w.heap.size, 0, none⟩ = some (.slice A1 n1 c1) := kt3.cell 0; have t31 : w3.cell? ⟨w.heap.size, 1, none⟩ = some (.slice A2 n2 c2) := kt3.cell 1; have kt3' := Lib.hid kt3; have kr3' := Lib.hid kr3; have r30 := kr3.cell 0; have r31 := kr3.free 0; clear hb3 kt3 kr3)
        | (go_at_call 6; (with_reducible refine Calls.mono (works_any hP _ (hT'.out.below hB3.out)) ?_); rintro e w4 ⟨rfl, hb4⟩; have hB4 := Lib.hid (below_on hB3.out hb4); have kr4 := kr3'.out.below hb4 kr3'.out.lt; have r40 := kr4.cell 0; have r41 := kr4.free 0; have rr4 := (kr4.put 0 (.bool true)).cell 0; have kr4' := Lib.hid kr4; clear hb4 kr4))
      refine ⟨rfl, .bool true, ?_, rfl, hB4.out.setCell (p := ⟨w.heap.size + 1 + 1 + 1, 0, none⟩) (by simp; omega) _⟩
      simp [results, Tryz.results4, go_sem, rr4]
    | true =>
      rw [hg] at hfb
      have hkI : (60 : Int) < (key.length : Int) := by have : ¬ key.length ≤ 60 := fun e => h ⟨hf, hg, e⟩; omega
      clear h hf hg ha hb
      go_enter Tryz.func4, Tryz.ntmps4
      go_upto_region 1 with (fail)
      rw [hw1'.out]
      go_wp2_with (first
        | (go_at_call 15; (with_reducible refine Calls.mono (hfa.out _ hx1.out hq1.out) ?_); rintro e w2 ⟨rfl, hb2⟩; have hB2 := Lib.hid (below_on hB1.out hb2); have hx2 := Lib.hid (hx1.out.below hb2); have hq2 := Lib.hid (hq1.out.below hb2); have hy2 := Lib.hid (hy1.out.below hb2); have hr2 := Lib.hid (hr1.out.below hb2); have kt2 := kt1.out.below hb2 kt1.out.lt; have ko2 := ko1.out.below hb2 ko1.out.lt; have km2 := Lib.hid (km1.out.below hb2 km1.out.lt); have kr2 := kr1.out.below hb2 kr1.out.lt; have t20 : w2.cell? ⟨w.heap.size + 1, 0, none⟩ = some (.slice B1 o1 d1) := ko2.cell 0; have t21 : w2.cell? ⟨w.heap.size + 1, 1, none⟩ = some (.slice B2 o2 d2) := ko2.cell 1; have kt2' := Lib.hid kt2; have ko2' := Lib.hid ko2; have kr2' := Lib.hid kr2; have r20 := kr2.cell 0; have r21 := kr2.free 0; clear hb2 kt2 ko2 kr2)
        | (go_at_call 15; (with_reducible refine Calls.mono (hfb.out _ hy2.out hr2.out) ?_); rintro e w3 ⟨rfl, hb3⟩; have hB3 := Lib.hid (below_on hB2.out hb3); have hx3 := Lib.hid (hx2.out.below hb3); have hq3 := Lib.hid (hq2.out.below hb3); have hy3 := Lib.hid (hy2.out.below hb3); have hr3 := Lib.hid (hr2.out.below hb3); have kt3 := kt2'.out.below hb3 kt2'.out.lt; have ko3 := Lib.hid (ko2'.out.below hb3 ko2'.out.lt); have km3 := Lib.hid (km2.out.below hb3 km2.out.lt); have kr3 := kr2'.out.below hb3 kr2'.out.lt; have t30 : w3.cell? ⟨w.heap.size, 0, none⟩ = some (.slice A1 n1 c1) := kt3.cell 0; have t31 : w3.cell? ⟨w.heap.size, 1, none⟩ = some (.slice A2 n2 c2) := kt3.cell 1; have kt3' := Lib.hid kt3; have kr3' := Lib.hid kr3; have r30 := kr3.cell 0; have r31 := kr3.free 0; clear hb3 kt3 kr3)
        | (go_at_call 6; (with_reducible refine Calls.mono (works_any hP _ (hT'.out.below hB3.out)) ?_); rintro e w4 ⟨rfl, hb4⟩; have hB4 := Lib.hid (below_on hB3.out hb4); have kr4 := kr3'.out.below hb4 kr3'.out.lt; have r40 := kr4.cell 0; have r41 := kr4.free 0; have rr4 := (kr4.put 0 (.bool true)).cell 0; have kr4' := Lib.hid kr4; clear hb4 kr4))
      refine ⟨rfl, .bool true, ?_, rfl, hB4.out.setCell (p := ⟨w.heap.size + 1 + 1 + 1, 0, none⟩) (by simp; omega) _⟩
      simp [results, Tryz.results4, go_sem, rr4]
end Go.Proofs.YtcogdfgmmpfkkaaGreatDoor
