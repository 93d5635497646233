import Derived.Test.YtdkmajmmhngdpaaDoorFdC
import Derived.Deep.RegionHeld3
import Derived.Deep.Cut
namespace Go.Proofs.YtdkmajmmhngdpaaDoor
open Go.RowKit Go.Maps

/-! ## What is said, apart; Of -/
set_option maxRecDepth 100000 in
theorem cloneS_any (s : ByteArray) (w : World) (hs : s.size ≤ 281474976710656) : Calls Tryd.prog 89 #[.string s] w fun e w' => e = .returned (.string s) ∧ Below w.heap.size w w' := by
  have hc := Lib.hid (Tryd.stringslite_Clone s w hs)
  go_enter Tryd.func89, Tryd.ntmps89
  go_wp2_with (go_at_call 109; (with_reducible refine Calls.mono hc.out ?_); rintro e w2 ⟨rfl, hb2⟩)
  go_ret
  exact ⟨rfl, hb2⟩
def fieldV (f : Int × List UInt8 × List UInt8) : Value := .agg #[.int .i64 (f.1 : Int), .string ⟨f.2.1.toArray⟩, .string ⟨f.2.2.toArray⟩]
set_option maxRecDepth 100000 in
theorem apartF_any (k : Nat) (f : Int × List UInt8 × List UInt8) (l : List UInt8) (w : World) (hk : Has w k 81 (undCells f l)) (h1 : f.2.1.length ≤ 1000000) (h2 : f.2.2.length ≤ 1000000) :
    Calls Tryd.prog 57 #[.pointer (some ⟨k, 0, none⟩)] w fun e w' => e = .returned (fieldV f) ∧ Below w.heap.size w w' := by
  obtain ⟨ki, nm, vl⟩ := f
  simp only at h1 h2
  have hb1 : Below w.heap.size w (w.alloc (.cells #[.int .i64 0, .string ⟨#[]⟩, .string ⟨#[]⟩] 37)) := (Below.refl _ _).alloc (Nat.le_refl _) _
  have kR := Has.new w 37 #[.int .i64 0, .string ⟨#[]⟩, .string ⟨#[]⟩]
  obtain ⟨w1, hw1⟩ : ∃ w1, w.alloc (.cells #[.int .i64 0, .string ⟨#[]⟩, .string ⟨#[]⟩] 37) = w1 := ⟨_, rfl⟩
  have z1 : w1.heap.size = w.heap.size + 1 := by rw [← hw1]; simp
  rw [hw1] at hb1 kR
  have hw1' := Lib.hid hw1
  have hk1 := hk.below hb1 hk.lt
  have hkl : k < w.heap.size := hk.lt
  have hall := Lib.hid (fun (W : World) (hb : W.heap[k]? = w1.heap[k]?) => show W.cell? ⟨k, 0, none⟩ = some (.int .i64 (ki : Int)) ∧ W.cell? ⟨k, 1, none⟩ = some (.string ⟨nm.toArray⟩) ∧ W.cell? ⟨k, 2, none⟩ = some (.string ⟨vl.toArray⟩) from by
    have h : Has W k 81 _ := hb.trans hk1
    exact ⟨h.cell 0, h.cell 1, h.cell 2⟩)
  have hc1 := Lib.hid (fun W => cloneS_any ⟨nm.toArray⟩ W (by show nm.toArray.size ≤ _; simp; omega))
  have hc2 := Lib.hid (fun W => cloneS_any ⟨vl.toArray⟩ W (by show vl.toArray.size ≤ _; simp; omega))
  have hb0 := Lib.hid (Below.refl w1.heap.size w1).drew
  have he0 := Lib.hid (show w1.drew.heap[k]? = w1.heap[k]? from rfl)
  have kR' := Lib.hid kR
  have hb1' := Lib.hid hb1
  have z1' := Lib.hid z1
  have hz : w.heap.size < w1.heap.size := by omega
  clear hk hw1 hk1 kR hb1 z1
  go_enter Tryd.func57, Tryd.ntmps57
  go_upto_region 1 with (fail)
  rw [hw1'.out]
  go_region_held3 (fun W => W.cell? ⟨k, 0, none⟩ = some (.int .i64 (ki : Int)) ∧ W.cell? ⟨k, 1, none⟩ = some (.string ⟨nm.toArray⟩) ∧ W.cell? ⟨k, 2, none⟩ = some (.string ⟨vl.toArray⟩))
    (first
    | with_reducible exact hall.out _ he3.out
    | with_reducible exact hall.out _ (he3s.out _ _ _)
    | with_reducible exact hall.out _ he2.out
    | with_reducible exact hall.out _ he0.out
    | fail)
    (first
    | (go_at_call 89; (with_reducible refine Calls.mono (hc1.out _) ?_); rintro e w3 ⟨rfl, hb3⟩; have hb3' := Lib.hid (hb2'.out.trans (hb3.mono hb2'.out.size)); have he3 := Lib.hid (hb3'.out.block k (by omega)); have he3s := Lib.hid (fun (x y z : Value) => (((Below.heap_setCell ((w3.setCell ⟨w.heap.size, 0, none⟩ x).setCell ⟨w.heap.size, 1, none⟩ y) ⟨w.heap.size, 2, none⟩ z k (by show k ≠ w.heap.size; omega)).trans (Below.heap_setCell (w3.setCell ⟨w.heap.size, 0, none⟩ x) ⟨w.heap.size, 1, none⟩ y k (by show k ≠ w.heap.size; omega))).trans (Below.heap_setCell w3 ⟨w.heap.size, 0, none⟩ x k (by show k ≠ w.heap.size; omega))).trans he3.out); have kR3 := kR'.out.below hb3'.out kR'.out.lt; have g0 := kR3.cell 0; have g1 := kR3.cell 1; have g2 := kR3.cell 2; have q0 := kR3.free 0; have q1 := kR3.free 1; have q2 := kR3.free 2; have kR3' := Lib.hid kR3; clear kR3 hb3)
    | (go_at_call 89; (with_reducible refine Calls.mono (hc2.out _) ?_); rintro e w3 ⟨rfl, hb3⟩; have hb3' := Lib.hid (hb2'.out.trans (hb3.mono hb2'.out.size)); have he3 := Lib.hid (hb3'.out.block k (by omega)); have he3s := Lib.hid (fun (x y z : Value) => (((Below.heap_setCell ((w3.setCell ⟨w.heap.size, 0, none⟩ x).setCell ⟨w.heap.size, 1, none⟩ y) ⟨w.heap.size, 2, none⟩ z k (by show k ≠ w.heap.size; omega)).trans (Below.heap_setCell (w3.setCell ⟨w.heap.size, 0, none⟩ x) ⟨w.heap.size, 1, none⟩ y k (by show k ≠ w.heap.size; omega))).trans (Below.heap_setCell w3 ⟨w.heap.size, 0, none⟩ x k (by show k ≠ w.heap.size; omega))).trans he3.out); have kR3 := kR'.out.below hb3'.out kR'.out.lt; have g0 := kR3.cell 0; have g1 := kR3.cell 1; have g2 := kR3.cell 2; have q0 := kR3.free 0; have q1 := kR3.free 1; have q2 := kR3.free 2; have kR3' := Lib.hid kR3; clear kR3 hb3)
    | (go_at_call 89; (with_reducible refine Calls.mono (hc1.out _) ?_); rintro e w2 ⟨rfl, hb2⟩; have hb2' := Lib.hid (hb0.out.trans (hb2.mono hb0.out.size)); have he2 := Lib.hid (hb2'.out.block k (by omega)); clear hb2)
    | (go_at_call 89; (with_reducible refine Calls.mono (hc2.out _) ?_); rintro e w2 ⟨rfl, hb2⟩; have hb2' := Lib.hid (hb0.out.trans (hb2.mono hb0.out.size)); have he2 := Lib.hid (hb2'.out.block k (by omega)); clear hb2)
    | fail)
  all_goals
    go_wp2
    have kf := ((kR3'.out.put 0 (.int .i64 (ki : Int))).put 1 (.string ⟨nm.toArray⟩)).put 2 (.string ⟨vl.toArray⟩)
    have x0 := kf.cell 0
    have x1 := kf.cell 1
    have x2 := kf.cell 2
    refine bodyPost_ret (v := .agg #[.int .i64 (ki : Int), .string ⟨nm.toArray⟩, .string ⟨vl.toArray⟩]) (by simp [results, Tryd.results57, go_sem, x0, x1, x2]) rfl ⟨rfl, ?_⟩
    exact (((hb1'.out.trans (hb3'.out.mono (by omega))).setCell (p := ⟨w.heap.size, 0, none⟩) (Nat.le_refl _) _).setCell (p := ⟨w.heap.size, 1, none⟩) (Nat.le_refl _) _).setCell (p := ⟨w.heap.size, 2, none⟩) (Nat.le_refl _) _
theorem trim_len (l : List UInt8) (p : List UInt8) : (Lib.trimPrefix l p).length ≤ l.length := by
  unfold Lib.trimPrefix
  split
  · simp
  · exact Nat.le_refl _
theorem fieldF_len (l : List UInt8) : (fieldF l).2.1.length ≤ l.length ∧ (fieldF l).2.2.length ≤ l.length := by
  unfold fieldF
  split
  · simp
  · split
    · exact ⟨Nat.zero_le _, trim_len _ _⟩
    · refine ⟨?_, Nat.le_trans (trim_len _ _) ?_⟩
      · unfold Lib.cut; split
        · simp; omega
        · exact Nat.le_refl _
      · unfold Lib.cut; split
        · simp
        · simp
set_option maxRecDepth 100000 in
theorem ofF_any (l : List UInt8) (w : World) (hl : l.length ≤ 1000000) (hN : NamesT w) (hM : MaxT w) : Calls Tryd.prog 24 #[.string ⟨l.toArray⟩] w fun e w' => e = .returned (fieldV (fieldF l)) ∧ Below w.heap.size w w' := by
  have hb1 : Below w.heap.size w ((w.alloc (.cells #[.int .i64 0, .string ⟨#[]⟩, .string ⟨#[]⟩] 37)).alloc (.cells (undCells (0, [], []) l) 81)) := ((Below.refl _ _).alloc (Nat.le_refl _) _).alloc (by simp) _
  have kR := (Has.new w 37 #[.int .i64 0, .string ⟨#[]⟩, .string ⟨#[]⟩]).alloc (.cells (undCells (0, [], []) l) 81)
  have kU := Has.new (w.alloc (.cells #[.int .i64 0, .string ⟨#[]⟩, .string ⟨#[]⟩] 37)) 81 (undCells (0, [], []) l)
  simp only [World.size_alloc] at kU
  obtain ⟨w1, hw1⟩ : ∃ w1, (w.alloc (.cells #[.int .i64 0, .string ⟨#[]⟩, .string ⟨#[]⟩] 37)).alloc (.cells (undCells (0, [], []) l) 81) = w1 := ⟨_, rfl⟩
  have z1 : w1.heap.size = w.heap.size + 1 + 1 := by rw [← hw1]; simp
  rw [hw1] at hb1 kR kU
  have hw1' := Lib.hid hw1
  have n1 := hN.lt
  obtain ⟨mm, hmm⟩ := hM
  have n2 := hmm.lt
  have hrd := Lib.hid (readF_any (w.heap.size + 1) (w.heap.size + 1) l w1 kU hl (Nat.le_refl _) (hN.below hb1) (by omega) ⟨mm, hmm.below hb1 n2⟩ (by omega))
  have kR' := Lib.hid kR
  have hb1' := Lib.hid hb1
  have z1' := Lib.hid z1
  have hlen := fieldF_len l
  obtain ⟨f, hf⟩ : ∃ f, fieldF l = f := ⟨_, rfl⟩
  rw [hf] at hlen ⊢
  have hf' := Lib.hid hf
  clear hw1 hb1 kR kU z1 hN hmm hf
  obtain ⟨ki, nm, vl⟩ := f
  go_enter Tryd.func24, Tryd.ntmps24
  go_upto_region 2 with (fail)
  rw [show (w.alloc (.cells #[.int .i64 0, .string ⟨#[]⟩, .string ⟨#[]⟩] 37)).alloc (.cells #[.int .i64 0, .string ⟨#[]⟩, .string ⟨#[]⟩, .string ⟨l.toArray⟩] 81) = w1 from hw1'.out]
  go_wp2_with (first
    | (go_at_call 56; (with_reducible refine Calls.mono hrd.out ?_); rintro e w2 ⟨rfl, hk2, hb2⟩; rw [hf'.out] at hk2; have hap := Lib.hid (apartF_any (w.heap.size + 1) _ l w2 hk2 (by simp only; omega) (by simp only; omega)); have hb2' := Lib.hid hb2; clear hk2 hb2)
    | (go_at_call 57; (with_reducible refine Calls.mono hap.out ?_); rintro e w3 ⟨rfl, hb3⟩; have hb3' := Lib.hid hb3; have kR2 := hb2'.out.block w.heap.size (by omega); have kR2 : Has w2 w.heap.size _ _ := kR2.trans kR'.out; have kR3 := kR2.below hb3 kR2.lt; have g0 := kR3.cell 0; have g1 := kR3.cell 1; have g2 := kR3.cell 2; have q0 := kR3.free 0; have q1 := kR3.free 1; have q2 := kR3.free 2; have kR3' := Lib.hid kR3; clear kR3 kR2 hb3; unfold fieldV))
  have kf := ((kR3'.out.put 0 (.int .i64 (ki : Int))).put 1 (.string ⟨nm.toArray⟩)).put 2 (.string ⟨vl.toArray⟩)
  have x0 := kf.cell 0
  have x1 := kf.cell 1
  have x2 := kf.cell 2
  refine bodyPost_ret (v := .agg #[.int .i64 (ki : Int), .string ⟨nm.toArray⟩, .string ⟨vl.toArray⟩]) (by simp [results, Tryd.results24, go_sem, x0, x1, x2]) rfl ⟨rfl, ?_⟩
  have z1 := z1'.out
  have z2 := hb2'.out.size
  exact (((hb1'.out.trans ((hb2'.out.mono (by omega)).trans (hb3'.out.mono (by omega)))).setCell (p := ⟨w.heap.size, 0, none⟩) (Nat.le_refl _) _).setCell (p := ⟨w.heap.size, 1, none⟩) (Nat.le_refl _) _).setCell (p := ⟨w.heap.size, 2, none⟩) (Nat.le_refl _) _
end Go.Proofs.YtdkmajmmhngdpaaDoor
