import Derived.Test.YtlcfpnegpihicaaGreatDoorPw5
import Derived.Test.YtlcfpnegpihicaaGreatDoorPw8
import Derived.BigQuiet
import Derived.Deep.RegionHeld3
import Derived.Deep.QuietTactic
namespace Go.Proofs.YtlcfpnegpihicaaGreatDoor
open Go.RowKit Go.Shelf
attribute [local go_sem] Oper.semAt_some

/-! ## The document's parser: an event ends -/
/-- All but two blocks stand. -/
def KO (a b : Nat) (W W' : World) : Prop := ∀ k, k ≠ a → k ≠ b → W'.heap[k]? = W.heap[k]?
theorem KO.refl (a b : Nat) (W : World) : KO a b W W := fun _ _ _ => rfl
theorem KO.drew {a b : Nat} {W W' : World} (h : KO a b W W') : KO a b W W'.drew := h
theorem KO.has {a b k : Nat} {W W' : World} {t : TypeId} {cs : Array Value} (h : KO a b W W') (hk : Has W k t cs) (h1 : k ≠ a) (h2 : k ≠ b) : Has W' k t cs := (h k h1 h2).trans hk
set_option maxRecDepth 100000 in
set_option maxHeartbeats 2000000 in
theorem ends_event (A : Option Addr) (n c l m : Nat) (k : Nat) (lb bi bt bd : ByteArray) (any half : Bool) (w : World) (hi : bi.size ≤ 1000000) (ht : bt.size ≤ 1000000) (hd : bd.size ≤ 1000000) (hm : m ≤ 65536) (hk : bd.size = k + 1) (hle : bi.size + bt.size + k ≤ m) :
    Calls Tryz.prog 53 #[.agg #[.slice A n c, .int .i64 (l : Int), .string lb, .bool any, .bool half, .int .i64 (m : Int), .string bi, .string bt, .string bd, .bool true, .bool false]] w fun e w' => e = .returned (.tuple #[.agg #[.slice A n c, .int .i64 (l : Int), .string lb, .bool any, .bool half, .int .i64 (m : Int), .string bi, .string ⟨#[]⟩, .string ⟨#[]⟩, .bool false, .bool false], .agg #[.int .i64 1, .string bi, .string bt, .string (bd.extract 0 k), .int .u64 0], .bool true]) ∧ Below w.heap.size w w' := by
  have hB4 : Below w.heap.size w ((((w.alloc (.cells #[.slice A n c, .int .i64 (l : Int), .string lb, .bool any, .bool half, .int .i64 (m : Int), .string bi, .string bt, .string bd, .bool true, .bool false] 51)).alloc (.cells #[.slice none 0 0, .int .i64 0, .string ⟨#[]⟩, .bool false, .bool false, .int .i64 0, .string ⟨#[]⟩, .string ⟨#[]⟩, .string ⟨#[]⟩, .bool false, .bool false] 51)).alloc (.cells #[.int .i64 0, .string ⟨#[]⟩, .string ⟨#[]⟩, .string ⟨#[]⟩, .int .u64 0] 40)).alloc (.cells #[.string bi, .string bt, .string ⟨#[]⟩] 37)) := ((((Below.refl _ _).alloc (Nat.le_refl _) _).alloc (by simp) _).alloc (by simp; omega) _).alloc (by simp; omega) _
  have kP := (((Has.new w 51 #[.slice A n c, .int .i64 (l : Int), .string lb, .bool any, .bool half, .int .i64 (m : Int), .string bi, .string bt, .string bd, .bool true, .bool false]).alloc (.cells #[.slice none 0 0, .int .i64 0, .string ⟨#[]⟩, .bool false, .bool false, .int .i64 0, .string ⟨#[]⟩, .string ⟨#[]⟩, .string ⟨#[]⟩, .bool false, .bool false] 51)).alloc (.cells #[.int .i64 0, .string ⟨#[]⟩, .string ⟨#[]⟩, .string ⟨#[]⟩, .int .u64 0] 40)).alloc (.cells #[.string bi, .string bt, .string ⟨#[]⟩] 37)
  have kR := ((Has.new (w.alloc (.cells #[.slice A n c, .int .i64 (l : Int), .string lb, .bool any, .bool half, .int .i64 (m : Int), .string bi, .string bt, .string bd, .bool true, .bool false] 51)) 51 #[.slice none 0 0, .int .i64 0, .string ⟨#[]⟩, .bool false, .bool false, .int .i64 0, .string ⟨#[]⟩, .string ⟨#[]⟩, .string ⟨#[]⟩, .bool false, .bool false]).alloc (.cells #[.int .i64 0, .string ⟨#[]⟩, .string ⟨#[]⟩, .string ⟨#[]⟩, .int .u64 0] 40)).alloc (.cells #[.string bi, .string bt, .string ⟨#[]⟩] 37)
  have kS := (Has.new ((w.alloc (.cells #[.slice A n c, .int .i64 (l : Int), .string lb, .bool any, .bool half, .int .i64 (m : Int), .string bi, .string bt, .string bd, .bool true, .bool false] 51)).alloc (.cells #[.slice none 0 0, .int .i64 0, .string ⟨#[]⟩, .bool false, .bool false, .int .i64 0, .string ⟨#[]⟩, .string ⟨#[]⟩, .string ⟨#[]⟩, .bool false, .bool false] 51)) 40 #[.int .i64 0, .string ⟨#[]⟩, .string ⟨#[]⟩, .string ⟨#[]⟩, .int .u64 0]).alloc (.cells #[.string bi, .string bt, .string ⟨#[]⟩] 37)
  have kE := Has.new (((w.alloc (.cells #[.slice A n c, .int .i64 (l : Int), .string lb, .bool any, .bool half, .int .i64 (m : Int), .string bi, .string bt, .string bd, .bool true, .bool false] 51)).alloc (.cells #[.slice none 0 0, .int .i64 0, .string ⟨#[]⟩, .bool false, .bool false, .int .i64 0, .string ⟨#[]⟩, .string ⟨#[]⟩, .string ⟨#[]⟩, .bool false, .bool false] 51)).alloc (.cells #[.int .i64 0, .string ⟨#[]⟩, .string ⟨#[]⟩, .string ⟨#[]⟩, .int .u64 0] 40)) 37 #[.string bi, .string bt, .string ⟨#[]⟩]
  simp only [World.size_alloc] at kR kS kE
  obtain ⟨w4, hw4⟩ : ∃ w4, ((((w.alloc (.cells #[.slice A n c, .int .i64 (l : Int), .string lb, .bool any, .bool half, .int .i64 (m : Int), .string bi, .string bt, .string bd, .bool true, .bool false] 51)).alloc (.cells #[.slice none 0 0, .int .i64 0, .string ⟨#[]⟩, .bool false, .bool false, .int .i64 0, .string ⟨#[]⟩, .string ⟨#[]⟩, .string ⟨#[]⟩, .bool false, .bool false] 51)).alloc (.cells #[.int .i64 0, .string ⟨#[]⟩, .string ⟨#[]⟩, .string ⟨#[]⟩, .int .u64 0] 40)).alloc (.cells #[.string bi, .string bt, .string ⟨#[]⟩] 37)) = w4 := ⟨_, rfl⟩
  rw [hw4] at hB4 kP kR kS kE
  have hw4' := Lib.hid hw4
  have hB4' := Lib.hid hB4
  have p5 := kP.cell 5
  have p8 := kP.cell 8
  have p9 := kP.cell 9
  have p10 := kP.cell 10
  have e2 := kE.cell 2
  have f2 := kE.free 2
  have kP' := Lib.hid kP
  have kR' := Lib.hid kR
  have kS' := Lib.hid kS
  have kE' := Lib.hid kE
  have hki : (bd.size : Int) = (k : Int) + 1 := by omega
  clear hw4 hB4 kP kR kS kE
  go_enter Tryz.func53, Tryz.ntmps53
  go_upto_region 2 with (fail)
  rw [hw4'.out]
  go_upto_region 4 with (fail)
  have kE5 := kE'.out.put 2 (.string (bd.extract 0 k))
  have kP5 := kP'.out.other (j := w.heap.size + 1 + 1 + 1) (i := 2) (by omega) (.string (bd.extract 0 k))
  have kR5 := kR'.out.other (j := w.heap.size + 1 + 1 + 1) (i := 2) (by omega) (.string (bd.extract 0 k))
  have kS5 := kS'.out.other (j := w.heap.size + 1 + 1 + 1) (i := 2) (by omega) (.string (bd.extract 0 k))
  have hB5 := hB4'.out.setCell (p := ⟨w.heap.size + 1 + 1 + 1, 2, none⟩) (by show w.heap.size ≤ w.heap.size + 1 + 1 + 1; omega) (.string (bd.extract 0 k))
  obtain ⟨x, hx⟩ : ∃ x, bd.extract 0 k = x := ⟨_, rfl⟩
  have hxs : x.size = k := by rw [← hx, ByteArray.size_extract]; omega
  rw [hx] at kE5 kP5 kR5 kS5 hB5 ⊢
  have hx9 := Lib.hid hx
  clear hx
  obtain ⟨w5, hw5⟩ : ∃ w5, w4.setCell ⟨w.heap.size + 1 + 1 + 1, 2, none⟩ (.string x) = w5 := ⟨_, rfl⟩
  rw [hw5] at kE5 kP5 kR5 kS5 hB5 ⊢
  clear hw5 hw4' hB4' kP' kR' kS' kE' p5 p8 p9 p10 e2 f2
  have hP5' := Lib.hid kP5
  have hR5' := Lib.hid kR5
  have hS5' := Lib.hid kS5
  have hE5' := Lib.hid kE5
  have hB5' := Lib.hid hB5
  have p1 := kP5.cell 5
  have p9 := kP5.cell 9
  have p10 := kP5.cell 10
  have e0 := kE5.cell 0
  have e1 := kE5.cell 1
  have e2 := kE5.cell 2
  clear kE5 kP5 kR5 kS5 hB5
  have hg : ¬ (m : Int) < (bi.size : Int) + (bt.size : Int) + (k : Int) := by omega
  go_quiet (fail)
  clear p1 p9 p10 e0 e1 e2
  have kP6 := hP5'.out.drewN nq
  have kR6 := hR5'.out.drewN nq
  have kS6 := hS5'.out.drewN nq
  have kE6 := hE5'.out.drewN nq
  have hB6 := below_draws hB5'.out nq
  obtain ⟨w6, hw6⟩ : ∃ w6, w5.drewN nq = w6 := ⟨_, rfl⟩
  rw [hw6] at kP6 kR6 kS6 kE6 hB6 ⊢
  clear hw6 hP5' hR5' hS5' hE5' hB5'
  have v7 := kP6.cell 7
  have v8 := kP6.cell 8
  have v9 := kP6.cell 9
  have v10 := kP6.cell 10
  have f7 := kP6.free 7
  have f8 := kP6.free 8
  have f9 := kP6.free 9
  have f10 := kP6.free 10
  have kP7 := (((kP6.put 7 (.string ⟨#[]⟩)).put 8 (.string ⟨#[]⟩)).put 9 (.bool false)).put 10 (.bool false)
  have kR7 := (((kR6.other (j := w.heap.size) (i := 7) (by omega) (.string ⟨#[]⟩)).other (j := w.heap.size) (i := 8) (by omega) (.string ⟨#[]⟩)).other (j := w.heap.size) (i := 9) (by omega) (.bool false)).other (j := w.heap.size) (i := 10) (by omega) (.bool false)
  have kS7 := (((kS6.other (j := w.heap.size) (i := 7) (by omega) (.string ⟨#[]⟩)).other (j := w.heap.size) (i := 8) (by omega) (.string ⟨#[]⟩)).other (j := w.heap.size) (i := 9) (by omega) (.bool false)).other (j := w.heap.size) (i := 10) (by omega) (.bool false)
  have kE7 := (((kE6.other (j := w.heap.size) (i := 7) (by omega) (.string ⟨#[]⟩)).other (j := w.heap.size) (i := 8) (by omega) (.string ⟨#[]⟩)).other (j := w.heap.size) (i := 9) (by omega) (.bool false)).other (j := w.heap.size) (i := 10) (by omega) (.bool false)
  have hB7 := (((hB6.setCell (p := ⟨w.heap.size, 7, none⟩) (Nat.le_refl _) (.string ⟨#[]⟩)).setCell (p := ⟨w.heap.size, 8, none⟩) (Nat.le_refl _) (.string ⟨#[]⟩)).setCell (p := ⟨w.heap.size, 9, none⟩) (Nat.le_refl _) (.bool false)).setCell (p := ⟨w.heap.size, 10, none⟩) (Nat.le_refl _) (.bool false)
  obtain ⟨w7, hw7⟩ : ∃ w7, ((((w6.setCell ⟨w.heap.size, 7, none⟩ (.string ⟨#[]⟩)).setCell ⟨w.heap.size, 8, none⟩ (.string ⟨#[]⟩)).setCell ⟨w.heap.size, 9, none⟩ (.bool false)).setCell ⟨w.heap.size, 10, none⟩ (.bool false)) = w7 := ⟨_, rfl⟩
  rw [hw7] at kP7 kR7 kS7 kE7 hB7
  have hw7' := Lib.hid hw7
  have hP7' := Lib.hid kP7
  have hR7' := Lib.hid kR7
  have hS7' := Lib.hid kS7
  have hB7' := Lib.hid hB7
  have hE7' := Lib.hid kE7
  clear hw7 kP7 kR7 kS7 kE7 hB7 kP6 kR6 kS6 kE6 hB6
  go_upto_region 6 with (fail)
  rw [hw7'.out]
  clear f7 f8 f9 f10 v7 v8 v9 v10
  have c0 := hP7'.out.cell 0
  have g0 := hR7'.out.cell 0
  have q0 := hR7'.out.free 0
  have c1 := hP7'.out.cell 1
  have g1 := hR7'.out.cell 1
  have q1 := hR7'.out.free 1
  have c2 := hP7'.out.cell 2
  have g2 := hR7'.out.cell 2
  have q2 := hR7'.out.free 2
  have c3 := hP7'.out.cell 3
  have g3 := hR7'.out.cell 3
  have q3 := hR7'.out.free 3
  have c4 := hP7'.out.cell 4
  have g4 := hR7'.out.cell 4
  have q4 := hR7'.out.free 4
  have c5 := hP7'.out.cell 5
  have g5 := hR7'.out.cell 5
  have q5 := hR7'.out.free 5
  have c6 := hP7'.out.cell 6
  have g6 := hR7'.out.cell 6
  have q6 := hR7'.out.free 6
  have c7 := hP7'.out.cell 7
  have g7 := hR7'.out.cell 7
  have q7 := hR7'.out.free 7
  have c8 := hP7'.out.cell 8
  have g8 := hR7'.out.cell 8
  have q8 := hR7'.out.free 8
  have c9 := hP7'.out.cell 9
  have g9 := hR7'.out.cell 9
  have q9 := hR7'.out.free 9
  have c10 := hP7'.out.cell 10
  have g10 := hR7'.out.cell 10
  have q10 := hR7'.out.free 10
  have s0 := hS7'.out.cell 0
  have j0 := hS7'.out.free 0
  have s1 := hS7'.out.cell 1
  have j1 := hS7'.out.free 1
  have s2 := hS7'.out.cell 2
  have j2 := hS7'.out.free 2
  have s3 := hS7'.out.cell 3
  have j3 := hS7'.out.free 3
  have s4 := hS7'.out.cell 4
  have j4 := hS7'.out.free 4
  have e0 := hE7'.out.cell 0
  have e1 := hE7'.out.cell 1
  have e2 := hE7'.out.cell 2
  go_upto_region 9 with (fail)
  go_region
  go_wp2
  refine bodyPost_ret (v := .tuple #[.agg #[.slice A n c, .int .i64 (l : Int), .string lb, .bool any, .bool half, .int .i64 (m : Int), .string bi, .string ⟨#[]⟩, .string ⟨#[]⟩, .bool false, .bool false], .agg #[.int .i64 1, .string bi, .string bt, .string x, .int .u64 0], .bool true]) (by simp [results, Tryz.results53, go_sem, g0, g1, g2, g3, g4, g5, g6, g7, g8, g9, g10, s0, s1, s2, s3, s4]) rfl ⟨by rw [hx9.out], ?_⟩
  have hr1 : w.heap.size ≤ w.heap.size + 1 := by omega
  have hr2 : w.heap.size ≤ w.heap.size + 1 + 1 := by omega
  exact ((((((((((((((((hB7'.out.setCell (p := ⟨w.heap.size + 1, 0, none⟩) hr1 _).setCell (p := ⟨w.heap.size + 1, 1, none⟩) hr1 _).setCell (p := ⟨w.heap.size + 1, 2, none⟩) hr1 _).setCell (p := ⟨w.heap.size + 1, 3, none⟩) hr1 _).setCell (p := ⟨w.heap.size + 1, 4, none⟩) hr1 _).setCell (p := ⟨w.heap.size + 1, 5, none⟩) hr1 _).setCell (p := ⟨w.heap.size + 1, 6, none⟩) hr1 _).setCell (p := ⟨w.heap.size + 1, 7, none⟩) hr1 _).setCell (p := ⟨w.heap.size + 1, 8, none⟩) hr1 _).setCell (p := ⟨w.heap.size + 1, 9, none⟩) hr1 _).setCell (p := ⟨w.heap.size + 1, 10, none⟩) hr1 _).setCell (p := ⟨w.heap.size + 1 + 1, 0, none⟩) hr2 _).setCell (p := ⟨w.heap.size + 1 + 1, 1, none⟩) hr2 _).setCell (p := ⟨w.heap.size + 1 + 1, 2, none⟩) hr2 _).setCell (p := ⟨w.heap.size + 1 + 1, 3, none⟩) hr2 _).setCell (p := ⟨w.heap.size + 1 + 1, 4, none⟩) hr2 _).drew
set_option maxRecDepth 100000 in
set_option maxHeartbeats 2000000 in
theorem ends_more (A : Option Addr) (n c l m : Nat) (k : Nat) (lb bi bt bd : ByteArray) (any half : Bool) (w : World) (hi : bi.size ≤ 1000000) (ht : bt.size ≤ 1000000) (hd : bd.size ≤ 1000000) (hm : m ≤ 65536) (hk : bd.size = k + 1) (hle : m < bi.size + bt.size + k) :
    Calls Tryz.prog 53 #[.agg #[.slice A n c, .int .i64 (l : Int), .string lb, .bool any, .bool half, .int .i64 (m : Int), .string bi, .string bt, .string bd, .bool true, .bool false]] w fun e w' => e = .returned (.tuple #[.agg #[.slice A n c, .int .i64 (l : Int), .string lb, .bool any, .bool half, .int .i64 (m : Int), .string bi, .string ⟨#[]⟩, .string ⟨#[]⟩, .bool false, .bool false], .agg #[.int .i64 3, .string ⟨#[]⟩, .string ⟨#[]⟩, .string ⟨#[]⟩, .int .u64 0], .bool true]) ∧ Below w.heap.size w w' := by
  have hB4 : Below w.heap.size w ((((w.alloc (.cells #[.slice A n c, .int .i64 (l : Int), .string lb, .bool any, .bool half, .int .i64 (m : Int), .string bi, .string bt, .string bd, .bool true, .bool false] 51)).alloc (.cells #[.slice none 0 0, .int .i64 0, .string ⟨#[]⟩, .bool false, .bool false, .int .i64 0, .string ⟨#[]⟩, .string ⟨#[]⟩, .string ⟨#[]⟩, .bool false, .bool false] 51)).alloc (.cells #[.int .i64 0, .string ⟨#[]⟩, .string ⟨#[]⟩, .string ⟨#[]⟩, .int .u64 0] 40)).alloc (.cells #[.string bi, .string bt, .string ⟨#[]⟩] 37)) := ((((Below.refl _ _).alloc (Nat.le_refl _) _).alloc (by simp) _).alloc (by simp; omega) _).alloc (by simp; omega) _
  have kP := (((Has.new w 51 #[.slice A n c, .int .i64 (l : Int), .string lb, .bool any, .bool half, .int .i64 (m : Int), .string bi, .string bt, .string bd, .bool true, .bool false]).alloc (.cells #[.slice none 0 0, .int .i64 0, .string ⟨#[]⟩, .bool false, .bool false, .int .i64 0, .string ⟨#[]⟩, .string ⟨#[]⟩, .string ⟨#[]⟩, .bool false, .bool false] 51)).alloc (.cells #[.int .i64 0, .string ⟨#[]⟩, .string ⟨#[]⟩, .string ⟨#[]⟩, .int .u64 0] 40)).alloc (.cells #[.string bi, .string bt, .string ⟨#[]⟩] 37)
  have kR := ((Has.new (w.alloc (.cells #[.slice A n c, .int .i64 (l : Int), .string lb, .bool any, .bool half, .int .i64 (m : Int), .string bi, .string bt, .string bd, .bool true, .bool false] 51)) 51 #[.slice none 0 0, .int .i64 0, .string ⟨#[]⟩, .bool false, .bool false, .int .i64 0, .string ⟨#[]⟩, .string ⟨#[]⟩, .string ⟨#[]⟩, .bool false, .bool false]).alloc (.cells #[.int .i64 0, .string ⟨#[]⟩, .string ⟨#[]⟩, .string ⟨#[]⟩, .int .u64 0] 40)).alloc (.cells #[.string bi, .string bt, .string ⟨#[]⟩] 37)
  have kS := (Has.new ((w.alloc (.cells #[.slice A n c, .int .i64 (l : Int), .string lb, .bool any, .bool half, .int .i64 (m : Int), .string bi, .string bt, .string bd, .bool true, .bool false] 51)).alloc (.cells #[.slice none 0 0, .int .i64 0, .string ⟨#[]⟩, .bool false, .bool false, .int .i64 0, .string ⟨#[]⟩, .string ⟨#[]⟩, .string ⟨#[]⟩, .bool false, .bool false] 51)) 40 #[.int .i64 0, .string ⟨#[]⟩, .string ⟨#[]⟩, .string ⟨#[]⟩, .int .u64 0]).alloc (.cells #[.string bi, .string bt, .string ⟨#[]⟩] 37)
  have kE := Has.new (((w.alloc (.cells #[.slice A n c, .int .i64 (l : Int), .string lb, .bool any, .bool half, .int .i64 (m : Int), .string bi, .string bt, .string bd, .bool true, .bool false] 51)).alloc (.cells #[.slice none 0 0, .int .i64 0, .string ⟨#[]⟩, .bool false, .bool false, .int .i64 0, .string ⟨#[]⟩, .string ⟨#[]⟩, .string ⟨#[]⟩, .bool false, .bool false] 51)).alloc (.cells #[.int .i64 0, .string ⟨#[]⟩, .string ⟨#[]⟩, .string ⟨#[]⟩, .int .u64 0] 40)) 37 #[.string bi, .string bt, .string ⟨#[]⟩]
  simp only [World.size_alloc] at kR kS kE
  obtain ⟨w4, hw4⟩ : ∃ w4, ((((w.alloc (.cells #[.slice A n c, .int .i64 (l : Int), .string lb, .bool any, .bool half, .int .i64 (m : Int), .string bi, .string bt, .string bd, .bool true, .bool false] 51)).alloc (.cells #[.slice none 0 0, .int .i64 0, .string ⟨#[]⟩, .bool false, .bool false, .int .i64 0, .string ⟨#[]⟩, .string ⟨#[]⟩, .string ⟨#[]⟩, .bool false, .bool false] 51)).alloc (.cells #[.int .i64 0, .string ⟨#[]⟩, .string ⟨#[]⟩, .string ⟨#[]⟩, .int .u64 0] 40)).alloc (.cells #[.string bi, .string bt, .string ⟨#[]⟩] 37)) = w4 := ⟨_, rfl⟩
  rw [hw4] at hB4 kP kR kS kE
  have hw4' := Lib.hid hw4
  have hB4' := Lib.hid hB4
  have p5 := kP.cell 5
  have p8 := kP.cell 8
  have p9 := kP.cell 9
  have p10 := kP.cell 10
  have e2 := kE.cell 2
  have f2 := kE.free 2
  have kP' := Lib.hid kP
  have kR' := Lib.hid kR
  have kS' := Lib.hid kS
  have kE' := Lib.hid kE
  have hki : (bd.size : Int) = (k : Int) + 1 := by omega
  clear hw4 hB4 kP kR kS kE
  go_enter Tryz.func53, Tryz.ntmps53
  go_upto_region 2 with (fail)
  rw [hw4'.out]
  go_upto_region 4 with (fail)
  have kE5 := kE'.out.put 2 (.string (bd.extract 0 k))
  have kP5 := kP'.out.other (j := w.heap.size + 1 + 1 + 1) (i := 2) (by omega) (.string (bd.extract 0 k))
  have kR5 := kR'.out.other (j := w.heap.size + 1 + 1 + 1) (i := 2) (by omega) (.string (bd.extract 0 k))
  have kS5 := kS'.out.other (j := w.heap.size + 1 + 1 + 1) (i := 2) (by omega) (.string (bd.extract 0 k))
  have hB5 := hB4'.out.setCell (p := ⟨w.heap.size + 1 + 1 + 1, 2, none⟩) (by show w.heap.size ≤ w.heap.size + 1 + 1 + 1; omega) (.string (bd.extract 0 k))
  obtain ⟨x, hx⟩ : ∃ x, bd.extract 0 k = x := ⟨_, rfl⟩
  have hxs : x.size = k := by rw [← hx, ByteArray.size_extract]; omega
  rw [hx] at kE5 kP5 kR5 kS5 hB5 ⊢
  have hx9 := Lib.hid hx
  clear hx
  obtain ⟨w5, hw5⟩ : ∃ w5, w4.setCell ⟨w.heap.size + 1 + 1 + 1, 2, none⟩ (.string x) = w5 := ⟨_, rfl⟩
  rw [hw5] at kE5 kP5 kR5 kS5 hB5 ⊢
  clear hw5 hw4' hB4' kP' kR' kS' kE' p5 p8 p9 p10 e2 f2
  have hP5' := Lib.hid kP5
  have hR5' := Lib.hid kR5
  have hS5' := Lib.hid kS5
  have hE5' := Lib.hid kE5
  have hB5' := Lib.hid hB5
  have p1 := kP5.cell 5
  have p9 := kP5.cell 9
  have p10 := kP5.cell 10
  have e0 := kE5.cell 0
  have e1 := kE5.cell 1
  have e2 := kE5.cell 2
  clear kE5 kP5 kR5 kS5 hB5
  have hg : (m : Int) < (bi.size : Int) + (bt.size : Int) + (k : Int) := by omega
  go_quiet (fail)
  clear p1 p9 p10 e0 e1 e2
  have kP6 := hP5'.out.drewN nq
  have kR6 := hR5'.out.drewN nq
  have kS6 := hS5'.out.drewN nq
  have kE6 := hE5'.out.drewN nq
  have hB6 := below_draws hB5'.out nq
  obtain ⟨w6, hw6⟩ : ∃ w6, w5.drewN nq = w6 := ⟨_, rfl⟩
  rw [hw6] at kP6 kR6 kS6 kE6 hB6 ⊢
  clear hw6 hP5' hR5' hS5' hE5' hB5'
  have v7 := kP6.cell 7
  have v8 := kP6.cell 8
  have v9 := kP6.cell 9
  have v10 := kP6.cell 10
  have f7 := kP6.free 7
  have f8 := kP6.free 8
  have f9 := kP6.free 9
  have f10 := kP6.free 10
  have kP7 := (((kP6.put 7 (.string ⟨#[]⟩)).put 8 (.string ⟨#[]⟩)).put 9 (.bool false)).put 10 (.bool false)
  have kR7 := (((kR6.other (j := w.heap.size) (i := 7) (by omega) (.string ⟨#[]⟩)).other (j := w.heap.size) (i := 8) (by omega) (.string ⟨#[]⟩)).other (j := w.heap.size) (i := 9) (by omega) (.bool false)).other (j := w.heap.size) (i := 10) (by omega) (.bool false)
  have kS7 := (((kS6.other (j := w.heap.size) (i := 7) (by omega) (.string ⟨#[]⟩)).other (j := w.heap.size) (i := 8) (by omega) (.string ⟨#[]⟩)).other (j := w.heap.size) (i := 9) (by omega) (.bool false)).other (j := w.heap.size) (i := 10) (by omega) (.bool false)
  have kE7 := (((kE6.other (j := w.heap.size) (i := 7) (by omega) (.string ⟨#[]⟩)).other (j := w.heap.size) (i := 8) (by omega) (.string ⟨#[]⟩)).other (j := w.heap.size) (i := 9) (by omega) (.bool false)).other (j := w.heap.size) (i := 10) (by omega) (.bool false)
  have hB7 := (((hB6.setCell (p := ⟨w.heap.size, 7, none⟩) (Nat.le_refl _) (.string ⟨#[]⟩)).setCell (p := ⟨w.heap.size, 8, none⟩) (Nat.le_refl _) (.string ⟨#[]⟩)).setCell (p := ⟨w.heap.size, 9, none⟩) (Nat.le_refl _) (.bool false)).setCell (p := ⟨w.heap.size, 10, none⟩) (Nat.le_refl _) (.bool false)
  obtain ⟨w7, hw7⟩ : ∃ w7, ((((w6.setCell ⟨w.heap.size, 7, none⟩ (.string ⟨#[]⟩)).setCell ⟨w.heap.size, 8, none⟩ (.string ⟨#[]⟩)).setCell ⟨w.heap.size, 9, none⟩ (.bool false)).setCell ⟨w.heap.size, 10, none⟩ (.bool false)) = w7 := ⟨_, rfl⟩
  rw [hw7] at kP7 kR7 kS7 kE7 hB7
  have hw7' := Lib.hid hw7
  have hP7' := Lib.hid kP7
  have hR7' := Lib.hid kR7
  have hS7' := Lib.hid kS7
  have hB7' := Lib.hid hB7
  have hE7' := Lib.hid kE7
  clear hw7 kP7 kR7 kS7 kE7 hB7 kP6 kR6 kS6 kE6 hB6
  go_upto_region 6 with (fail)
  rw [hw7'.out]
  clear f7 f8 f9 f10 v7 v8 v9 v10
  have c0 := hP7'.out.cell 0
  have g0 := hR7'.out.cell 0
  have q0 := hR7'.out.free 0
  have c1 := hP7'.out.cell 1
  have g1 := hR7'.out.cell 1
  have q1 := hR7'.out.free 1
  have c2 := hP7'.out.cell 2
  have g2 := hR7'.out.cell 2
  have q2 := hR7'.out.free 2
  have c3 := hP7'.out.cell 3
  have g3 := hR7'.out.cell 3
  have q3 := hR7'.out.free 3
  have c4 := hP7'.out.cell 4
  have g4 := hR7'.out.cell 4
  have q4 := hR7'.out.free 4
  have c5 := hP7'.out.cell 5
  have g5 := hR7'.out.cell 5
  have q5 := hR7'.out.free 5
  have c6 := hP7'.out.cell 6
  have g6 := hR7'.out.cell 6
  have q6 := hR7'.out.free 6
  have c7 := hP7'.out.cell 7
  have g7 := hR7'.out.cell 7
  have q7 := hR7'.out.free 7
  have c8 := hP7'.out.cell 8
  have g8 := hR7'.out.cell 8
  have q8 := hR7'.out.free 8
  have c9 := hP7'.out.cell 9
  have g9 := hR7'.out.cell 9
  have q9 := hR7'.out.free 9
  have c10 := hP7'.out.cell 10
  have g10 := hR7'.out.cell 10
  have q10 := hR7'.out.free 10
  have s0 := hS7'.out.cell 0
  have j0 := hS7'.out.free 0
  have s1 := hS7'.out.cell 1
  have j1 := hS7'.out.free 1
  have s2 := hS7'.out.cell 2
  have j2 := hS7'.out.free 2
  have s3 := hS7'.out.cell 3
  have j3 := hS7'.out.free 3
  have s4 := hS7'.out.cell 4
  have j4 := hS7'.out.free 4
  go_wp2
  refine bodyPost_ret (v := .tuple #[.agg #[.slice A n c, .int .i64 (l : Int), .string lb, .bool any, .bool half, .int .i64 (m : Int), .string bi, .string ⟨#[]⟩, .string ⟨#[]⟩, .bool false, .bool false], .agg #[.int .i64 3, .string ⟨#[]⟩, .string ⟨#[]⟩, .string ⟨#[]⟩, .int .u64 0], .bool true]) (by simp [results, Tryz.results53, go_sem, g0, g1, g2, g3, g4, g5, g6, g7, g8, g9, g10, s0, s1, s2, s3, s4]) rfl ⟨rfl, ?_⟩
  have hr1 : w.heap.size ≤ w.heap.size + 1 := by omega
  have hr2 : w.heap.size ≤ w.heap.size + 1 + 1 := by omega
  exact ((((((((((((((((hB7'.out.setCell (p := ⟨w.heap.size + 1, 0, none⟩) hr1 _).setCell (p := ⟨w.heap.size + 1, 1, none⟩) hr1 _).setCell (p := ⟨w.heap.size + 1, 2, none⟩) hr1 _).setCell (p := ⟨w.heap.size + 1, 3, none⟩) hr1 _).setCell (p := ⟨w.heap.size + 1, 4, none⟩) hr1 _).setCell (p := ⟨w.heap.size + 1, 5, none⟩) hr1 _).setCell (p := ⟨w.heap.size + 1, 6, none⟩) hr1 _).setCell (p := ⟨w.heap.size + 1, 7, none⟩) hr1 _).setCell (p := ⟨w.heap.size + 1, 8, none⟩) hr1 _).setCell (p := ⟨w.heap.size + 1, 9, none⟩) hr1 _).setCell (p := ⟨w.heap.size + 1, 10, none⟩) hr1 _).setCell (p := ⟨w.heap.size + 1 + 1, 0, none⟩) hr2 _).setCell (p := ⟨w.heap.size + 1 + 1, 1, none⟩) hr2 _).setCell (p := ⟨w.heap.size + 1 + 1, 2, none⟩) hr2 _).setCell (p := ⟨w.heap.size + 1 + 1, 3, none⟩) hr2 _).setCell (p := ⟨w.heap.size + 1 + 1, 4, none⟩) hr2 _)
set_option maxRecDepth 100000 in
set_option maxHeartbeats 2000000 in
theorem ends_long (A : Option Addr) (n c l m : Nat) (lb bi bt bd : ByteArray) (any half : Bool) (w : World) (hi : bi.size ≤ 1000000) (ht : bt.size ≤ 1000000) (hd : bd.size ≤ 1000000) (hm : m ≤ 65536) :
    Calls Tryz.prog 53 #[.agg #[.slice A n c, .int .i64 (l : Int), .string lb, .bool any, .bool half, .int .i64 (m : Int), .string bi, .string bt, .string bd, .bool true, .bool true]] w fun e w' => e = .returned (.tuple #[.agg #[.slice A n c, .int .i64 (l : Int), .string lb, .bool any, .bool half, .int .i64 (m : Int), .string bi, .string ⟨#[]⟩, .string ⟨#[]⟩, .bool false, .bool false], .agg #[.int .i64 3, .string ⟨#[]⟩, .string ⟨#[]⟩, .string ⟨#[]⟩, .int .u64 0], .bool true]) ∧ Below w.heap.size w w' := by
  have hB4 : Below w.heap.size w ((((w.alloc (.cells #[.slice A n c, .int .i64 (l : Int), .string lb, .bool any, .bool half, .int .i64 (m : Int), .string bi, .string bt, .string bd, .bool true, .bool true] 51)).alloc (.cells #[.slice none 0 0, .int .i64 0, .string ⟨#[]⟩, .bool false, .bool false, .int .i64 0, .string ⟨#[]⟩, .string ⟨#[]⟩, .string ⟨#[]⟩, .bool false, .bool false] 51)).alloc (.cells #[.int .i64 0, .string ⟨#[]⟩, .string ⟨#[]⟩, .string ⟨#[]⟩, .int .u64 0] 40)).alloc (.cells #[.string bi, .string bt, .string ⟨#[]⟩] 37)) := ((((Below.refl _ _).alloc (Nat.le_refl _) _).alloc (by simp) _).alloc (by simp; omega) _).alloc (by simp; omega) _
  have kP := (((Has.new w 51 #[.slice A n c, .int .i64 (l : Int), .string lb, .bool any, .bool half, .int .i64 (m : Int), .string bi, .string bt, .string bd, .bool true, .bool true]).alloc (.cells #[.slice none 0 0, .int .i64 0, .string ⟨#[]⟩, .bool false, .bool false, .int .i64 0, .string ⟨#[]⟩, .string ⟨#[]⟩, .string ⟨#[]⟩, .bool false, .bool false] 51)).alloc (.cells #[.int .i64 0, .string ⟨#[]⟩, .string ⟨#[]⟩, .string ⟨#[]⟩, .int .u64 0] 40)).alloc (.cells #[.string bi, .string bt, .string ⟨#[]⟩] 37)
  have kR := ((Has.new (w.alloc (.cells #[.slice A n c, .int .i64 (l : Int), .string lb, .bool any, .bool half, .int .i64 (m : Int), .string bi, .string bt, .string bd, .bool true, .bool true] 51)) 51 #[.slice none 0 0, .int .i64 0, .string ⟨#[]⟩, .bool false, .bool false, .int .i64 0, .string ⟨#[]⟩, .string ⟨#[]⟩, .string ⟨#[]⟩, .bool false, .bool false]).alloc (.cells #[.int .i64 0, .string ⟨#[]⟩, .string ⟨#[]⟩, .string ⟨#[]⟩, .int .u64 0] 40)).alloc (.cells #[.string bi, .string bt, .string ⟨#[]⟩] 37)
  have kS := (Has.new ((w.alloc (.cells #[.slice A n c, .int .i64 (l : Int), .string lb, .bool any, .bool half, .int .i64 (m : Int), .string bi, .string bt, .string bd, .bool true, .bool true] 51)).alloc (.cells #[.slice none 0 0, .int .i64 0, .string ⟨#[]⟩, .bool false, .bool false, .int .i64 0, .string ⟨#[]⟩, .string ⟨#[]⟩, .string ⟨#[]⟩, .bool false, .bool false] 51)) 40 #[.int .i64 0, .string ⟨#[]⟩, .string ⟨#[]⟩, .string ⟨#[]⟩, .int .u64 0]).alloc (.cells #[.string bi, .string bt, .string ⟨#[]⟩] 37)
  have kE := Has.new (((w.alloc (.cells #[.slice A n c, .int .i64 (l : Int), .string lb, .bool any, .bool half, .int .i64 (m : Int), .string bi, .string bt, .string bd, .bool true, .bool true] 51)).alloc (.cells #[.slice none 0 0, .int .i64 0, .string ⟨#[]⟩, .bool false, .bool false, .int .i64 0, .string ⟨#[]⟩, .string ⟨#[]⟩, .string ⟨#[]⟩, .bool false, .bool false] 51)).alloc (.cells #[.int .i64 0, .string ⟨#[]⟩, .string ⟨#[]⟩, .string ⟨#[]⟩, .int .u64 0] 40)) 37 #[.string bi, .string bt, .string ⟨#[]⟩]
  simp only [World.size_alloc] at kR kS kE
  obtain ⟨w4, hw4⟩ : ∃ w4, ((((w.alloc (.cells #[.slice A n c, .int .i64 (l : Int), .string lb, .bool any, .bool half, .int .i64 (m : Int), .string bi, .string bt, .string bd, .bool true, .bool true] 51)).alloc (.cells #[.slice none 0 0, .int .i64 0, .string ⟨#[]⟩, .bool false, .bool false, .int .i64 0, .string ⟨#[]⟩, .string ⟨#[]⟩, .string ⟨#[]⟩, .bool false, .bool false] 51)).alloc (.cells #[.int .i64 0, .string ⟨#[]⟩, .string ⟨#[]⟩, .string ⟨#[]⟩, .int .u64 0] 40)).alloc (.cells #[.string bi, .string bt, .string ⟨#[]⟩] 37)) = w4 := ⟨_, rfl⟩
  rw [hw4] at hB4 kP kR kS kE
  have hw4' := Lib.hid hw4
  have hB4' := Lib.hid hB4
  have p5 := kP.cell 5
  have p8 := kP.cell 8
  have p9 := kP.cell 9
  have p10 := kP.cell 10
  have e2 := kE.cell 2
  have f2 := kE.free 2
  have kP' := Lib.hid kP
  have kR' := Lib.hid kR
  have kS' := Lib.hid kS
  have kE' := Lib.hid kE
  clear hw4 hB4 kP kR kS kE
  go_enter Tryz.func53, Tryz.ntmps53
  go_upto_region 2 with (fail)
  rw [hw4'.out]
  go_upto_region 4 with (fail)
  have kE5 := kE'.out
  have kP5 := kP'.out
  have kR5 := kR'.out
  have kS5 := kS'.out
  have hB5 := hB4'.out
  obtain ⟨w5, hw5⟩ : ∃ w5, w4 = w5 := ⟨_, rfl⟩
  rw [hw5] at kE5 kP5 kR5 kS5 hB5 ⊢
  clear hw5 hw4' hB4' kP' kR' kS' kE' p5 p8 p9 p10 e2 f2
  have hP5' := Lib.hid kP5
  have hR5' := Lib.hid kR5
  have hS5' := Lib.hid kS5
  have hE5' := Lib.hid kE5
  have hB5' := Lib.hid hB5
  have p1 := kP5.cell 5
  have p9 := kP5.cell 9
  have p10 := kP5.cell 10
  have e0 := kE5.cell 0
  have e1 := kE5.cell 1
  have e2 := kE5.cell 2
  clear kE5 kP5 kR5 kS5 hB5
  go_quiet (fail)
  clear p1 p9 p10 e0 e1 e2
  have kP6 := hP5'.out.drewN nq
  have kR6 := hR5'.out.drewN nq
  have kS6 := hS5'.out.drewN nq
  have kE6 := hE5'.out.drewN nq
  have hB6 := below_draws hB5'.out nq
  obtain ⟨w6, hw6⟩ : ∃ w6, w5.drewN nq = w6 := ⟨_, rfl⟩
  rw [hw6] at kP6 kR6 kS6 kE6 hB6 ⊢
  clear hw6 hP5' hR5' hS5' hE5' hB5'
  have v7 := kP6.cell 7
  have v8 := kP6.cell 8
  have v9 := kP6.cell 9
  have v10 := kP6.cell 10
  have f7 := kP6.free 7
  have f8 := kP6.free 8
  have f9 := kP6.free 9
  have f10 := kP6.free 10
  have kP7 := (((kP6.put 7 (.string ⟨#[]⟩)).put 8 (.string ⟨#[]⟩)).put 9 (.bool false)).put 10 (.bool false)
  have kR7 := (((kR6.other (j := w.heap.size) (i := 7) (by omega) (.string ⟨#[]⟩)).other (j := w.heap.size) (i := 8) (by omega) (.string ⟨#[]⟩)).other (j := w.heap.size) (i := 9) (by omega) (.bool false)).other (j := w.heap.size) (i := 10) (by omega) (.bool false)
  have kS7 := (((kS6.other (j := w.heap.size) (i := 7) (by omega) (.string ⟨#[]⟩)).other (j := w.heap.size) (i := 8) (by omega) (.string ⟨#[]⟩)).other (j := w.heap.size) (i := 9) (by omega) (.bool false)).other (j := w.heap.size) (i := 10) (by omega) (.bool false)
  have kE7 := (((kE6.other (j := w.heap.size) (i := 7) (by omega) (.string ⟨#[]⟩)).other (j := w.heap.size) (i := 8) (by omega) (.string ⟨#[]⟩)).other (j := w.heap.size) (i := 9) (by omega) (.bool false)).other (j := w.heap.size) (i := 10) (by omega) (.bool false)
  have hB7 := (((hB6.setCell (p := ⟨w.heap.size, 7, none⟩) (Nat.le_refl _) (.string ⟨#[]⟩)).setCell (p := ⟨w.heap.size, 8, none⟩) (Nat.le_refl _) (.string ⟨#[]⟩)).setCell (p := ⟨w.heap.size, 9, none⟩) (Nat.le_refl _) (.bool false)).setCell (p := ⟨w.heap.size, 10, none⟩) (Nat.le_refl _) (.bool false)
  obtain ⟨w7, hw7⟩ : ∃ w7, ((((w6.setCell ⟨w.heap.size, 7, none⟩ (.string ⟨#[]⟩)).setCell ⟨w.heap.size, 8, none⟩ (.string ⟨#[]⟩)).setCell ⟨w.heap.size, 9, none⟩ (.bool false)).setCell ⟨w.heap.size, 10, none⟩ (.bool false)) = w7 := ⟨_, rfl⟩
  rw [hw7] at kP7 kR7 kS7 kE7 hB7
  have hw7' := Lib.hid hw7
  have hP7' := Lib.hid kP7
  have hR7' := Lib.hid kR7
  have hS7' := Lib.hid kS7
  have hB7' := Lib.hid hB7
  have hE7' := Lib.hid kE7
  clear hw7 kP7 kR7 kS7 kE7 hB7 kP6 kR6 kS6 kE6 hB6
  go_upto_region 6 with (fail)
  rw [hw7'.out]
  clear f7 f8 f9 f10 v7 v8 v9 v10
  have c0 := hP7'.out.cell 0
  have g0 := hR7'.out.cell 0
  have q0 := hR7'.out.free 0
  have c1 := hP7'.out.cell 1
  have g1 := hR7'.out.cell 1
  have q1 := hR7'.out.free 1
  have c2 := hP7'.out.cell 2
  have g2 := hR7'.out.cell 2
  have q2 := hR7'.out.free 2
  have c3 := hP7'.out.cell 3
  have g3 := hR7'.out.cell 3
  have q3 := hR7'.out.free 3
  have c4 := hP7'.out.cell 4
  have g4 := hR7'.out.cell 4
  have q4 := hR7'.out.free 4
  have c5 := hP7'.out.cell 5
  have g5 := hR7'.out.cell 5
  have q5 := hR7'.out.free 5
  have c6 := hP7'.out.cell 6
  have g6 := hR7'.out.cell 6
  have q6 := hR7'.out.free 6
  have c7 := hP7'.out.cell 7
  have g7 := hR7'.out.cell 7
  have q7 := hR7'.out.free 7
  have c8 := hP7'.out.cell 8
  have g8 := hR7'.out.cell 8
  have q8 := hR7'.out.free 8
  have c9 := hP7'.out.cell 9
  have g9 := hR7'.out.cell 9
  have q9 := hR7'.out.free 9
  have c10 := hP7'.out.cell 10
  have g10 := hR7'.out.cell 10
  have q10 := hR7'.out.free 10
  have s0 := hS7'.out.cell 0
  have j0 := hS7'.out.free 0
  have s1 := hS7'.out.cell 1
  have j1 := hS7'.out.free 1
  have s2 := hS7'.out.cell 2
  have j2 := hS7'.out.free 2
  have s3 := hS7'.out.cell 3
  have j3 := hS7'.out.free 3
  have s4 := hS7'.out.cell 4
  have j4 := hS7'.out.free 4
  go_wp2
  refine bodyPost_ret (v := .tuple #[.agg #[.slice A n c, .int .i64 (l : Int), .string lb, .bool any, .bool half, .int .i64 (m : Int), .string bi, .string ⟨#[]⟩, .string ⟨#[]⟩, .bool false, .bool false], .agg #[.int .i64 3, .string ⟨#[]⟩, .string ⟨#[]⟩, .string ⟨#[]⟩, .int .u64 0], .bool true]) (by simp [results, Tryz.results53, go_sem, g0, g1, g2, g3, g4, g5, g6, g7, g8, g9, g10, s0, s1, s2, s3, s4]) rfl ⟨rfl, ?_⟩
  have hr1 : w.heap.size ≤ w.heap.size + 1 := by omega
  have hr2 : w.heap.size ≤ w.heap.size + 1 + 1 := by omega
  exact ((((((((((((((((hB7'.out.setCell (p := ⟨w.heap.size + 1, 0, none⟩) hr1 _).setCell (p := ⟨w.heap.size + 1, 1, none⟩) hr1 _).setCell (p := ⟨w.heap.size + 1, 2, none⟩) hr1 _).setCell (p := ⟨w.heap.size + 1, 3, none⟩) hr1 _).setCell (p := ⟨w.heap.size + 1, 4, none⟩) hr1 _).setCell (p := ⟨w.heap.size + 1, 5, none⟩) hr1 _).setCell (p := ⟨w.heap.size + 1, 6, none⟩) hr1 _).setCell (p := ⟨w.heap.size + 1, 7, none⟩) hr1 _).setCell (p := ⟨w.heap.size + 1, 8, none⟩) hr1 _).setCell (p := ⟨w.heap.size + 1, 9, none⟩) hr1 _).setCell (p := ⟨w.heap.size + 1, 10, none⟩) hr1 _).setCell (p := ⟨w.heap.size + 1 + 1, 0, none⟩) hr2 _).setCell (p := ⟨w.heap.size + 1 + 1, 1, none⟩) hr2 _).setCell (p := ⟨w.heap.size + 1 + 1, 2, none⟩) hr2 _).setCell (p := ⟨w.heap.size + 1 + 1, 3, none⟩) hr2 _).setCell (p := ⟨w.heap.size + 1 + 1, 4, none⟩) hr2 _)
set_option maxRecDepth 100000 in
set_option maxHeartbeats 2000000 in
theorem ends_long2 (A : Option Addr) (n c l m : Nat) (lb bi bt bd : ByteArray) (any half : Bool) (w : World) (hi : bi.size ≤ 1000000) (ht : bt.size ≤ 1000000) (hd : bd.size ≤ 1000000) (hm : m ≤ 65536) :
    Calls Tryz.prog 53 #[.agg #[.slice A n c, .int .i64 (l : Int), .string lb, .bool any, .bool half, .int .i64 (m : Int), .string bi, .string bt, .string bd, .bool false, .bool true]] w fun e w' => e = .returned (.tuple #[.agg #[.slice A n c, .int .i64 (l : Int), .string lb, .bool any, .bool half, .int .i64 (m : Int), .string bi, .string ⟨#[]⟩, .string ⟨#[]⟩, .bool false, .bool false], .agg #[.int .i64 3, .string ⟨#[]⟩, .string ⟨#[]⟩, .string ⟨#[]⟩, .int .u64 0], .bool true]) ∧ Below w.heap.size w w' := by
  have hB4 : Below w.heap.size w ((((w.alloc (.cells #[.slice A n c, .int .i64 (l : Int), .string lb, .bool any, .bool half, .int .i64 (m : Int), .string bi, .string bt, .string bd, .bool false, .bool true] 51)).alloc (.cells #[.slice none 0 0, .int .i64 0, .string ⟨#[]⟩, .bool false, .bool false, .int .i64 0, .string ⟨#[]⟩, .string ⟨#[]⟩, .string ⟨#[]⟩, .bool false, .bool false] 51)).alloc (.cells #[.int .i64 0, .string ⟨#[]⟩, .string ⟨#[]⟩, .string ⟨#[]⟩, .int .u64 0] 40)).alloc (.cells #[.string bi, .string bt, .string ⟨#[]⟩] 37)) := ((((Below.refl _ _).alloc (Nat.le_refl _) _).alloc (by simp) _).alloc (by simp; omega) _).alloc (by simp; omega) _
  have kP := (((Has.new w 51 #[.slice A n c, .int .i64 (l : Int), .string lb, .bool any, .bool half, .int .i64 (m : Int), .string bi, .string bt, .string bd, .bool false, .bool true]).alloc (.cells #[.slice none 0 0, .int .i64 0, .string ⟨#[]⟩, .bool false, .bool false, .int .i64 0, .string ⟨#[]⟩, .string ⟨#[]⟩, .string ⟨#[]⟩, .bool false, .bool false] 51)).alloc (.cells #[.int .i64 0, .string ⟨#[]⟩, .string ⟨#[]⟩, .string ⟨#[]⟩, .int .u64 0] 40)).alloc (.cells #[.string bi, .string bt, .string ⟨#[]⟩] 37)
  have kR := ((Has.new (w.alloc (.cells #[.slice A n c, .int .i64 (l : Int), .string lb, .bool any, .bool half, .int .i64 (m : Int), .string bi, .string bt, .string bd, .bool false, .bool true] 51)) 51 #[.slice none 0 0, .int .i64 0, .string ⟨#[]⟩, .bool false, .bool false, .int .i64 0, .string ⟨#[]⟩, .string ⟨#[]⟩, .string ⟨#[]⟩, .bool false, .bool false]).alloc (.cells #[.int .i64 0, .string ⟨#[]⟩, .string ⟨#[]⟩, .string ⟨#[]⟩, .int .u64 0] 40)).alloc (.cells #[.string bi, .string bt, .string ⟨#[]⟩] 37)
  have kS := (Has.new ((w.alloc (.cells #[.slice A n c, .int .i64 (l : Int), .string lb, .bool any, .bool half, .int .i64 (m : Int), .string bi, .string bt, .string bd, .bool false, .bool true] 51)).alloc (.cells #[.slice none 0 0, .int .i64 0, .string ⟨#[]⟩, .bool false, .bool false, .int .i64 0, .string ⟨#[]⟩, .string ⟨#[]⟩, .string ⟨#[]⟩, .bool false, .bool false] 51)) 40 #[.int .i64 0, .string ⟨#[]⟩, .string ⟨#[]⟩, .string ⟨#[]⟩, .int .u64 0]).alloc (.cells #[.string bi, .string bt, .string ⟨#[]⟩] 37)
  have kE := Has.new (((w.alloc (.cells #[.slice A n c, .int .i64 (l : Int), .string lb, .bool any, .bool half, .int .i64 (m : Int), .string bi, .string bt, .string bd, .bool false, .bool true] 51)).alloc (.cells #[.slice none 0 0, .int .i64 0, .string ⟨#[]⟩, .bool false, .bool false, .int .i64 0, .string ⟨#[]⟩, .string ⟨#[]⟩, .string ⟨#[]⟩, .bool false, .bool false] 51)).alloc (.cells #[.int .i64 0, .string ⟨#[]⟩, .string ⟨#[]⟩, .string ⟨#[]⟩, .int .u64 0] 40)) 37 #[.string bi, .string bt, .string ⟨#[]⟩]
  simp only [World.size_alloc] at kR kS kE
  obtain ⟨w4, hw4⟩ : ∃ w4, ((((w.alloc (.cells #[.slice A n c, .int .i64 (l : Int), .string lb, .bool any, .bool half, .int .i64 (m : Int), .string bi, .string bt, .string bd, .bool false, .bool true] 51)).alloc (.cells #[.slice none 0 0, .int .i64 0, .string ⟨#[]⟩, .bool false, .bool false, .int .i64 0, .string ⟨#[]⟩, .string ⟨#[]⟩, .string ⟨#[]⟩, .bool false, .bool false] 51)).alloc (.cells #[.int .i64 0, .string ⟨#[]⟩, .string ⟨#[]⟩, .string ⟨#[]⟩, .int .u64 0] 40)).alloc (.cells #[.string bi, .string bt, .string ⟨#[]⟩] 37)) = w4 := ⟨_, rfl⟩
  rw [hw4] at hB4 kP kR kS kE
  have hw4' := Lib.hid hw4
  have hB4' := Lib.hid hB4
  have p5 := kP.cell 5
  have p8 := kP.cell 8
  have p9 := kP.cell 9
  have p10 := kP.cell 10
  have e2 := kE.cell 2
  have f2 := kE.free 2
  have kP' := Lib.hid kP
  have kR' := Lib.hid kR
  have kS' := Lib.hid kS
  have kE' := Lib.hid kE
  clear hw4 hB4 kP kR kS kE
  go_enter Tryz.func53, Tryz.ntmps53
  go_upto_region 2 with (fail)
  rw [hw4'.out]
  go_upto_region 4 with (fail)
  have kE5 := kE'.out
  have kP5 := kP'.out
  have kR5 := kR'.out
  have kS5 := kS'.out
  have hB5 := hB4'.out
  obtain ⟨w5, hw5⟩ : ∃ w5, w4 = w5 := ⟨_, rfl⟩
  rw [hw5] at kE5 kP5 kR5 kS5 hB5 ⊢
  clear hw5 hw4' hB4' kP' kR' kS' kE' p5 p8 p9 p10 e2 f2
  have hP5' := Lib.hid kP5
  have hR5' := Lib.hid kR5
  have hS5' := Lib.hid kS5
  have hE5' := Lib.hid kE5
  have hB5' := Lib.hid hB5
  have p1 := kP5.cell 5
  have p9 := kP5.cell 9
  have p10 := kP5.cell 10
  have e0 := kE5.cell 0
  have e1 := kE5.cell 1
  have e2 := kE5.cell 2
  clear kE5 kP5 kR5 kS5 hB5
  go_quiet (fail)
  clear p1 p9 p10 e0 e1 e2
  have kP6 := hP5'.out.drewN nq
  have kR6 := hR5'.out.drewN nq
  have kS6 := hS5'.out.drewN nq
  have kE6 := hE5'.out.drewN nq
  have hB6 := below_draws hB5'.out nq
  obtain ⟨w6, hw6⟩ : ∃ w6, w5.drewN nq = w6 := ⟨_, rfl⟩
  rw [hw6] at kP6 kR6 kS6 kE6 hB6 ⊢
  clear hw6 hP5' hR5' hS5' hE5' hB5'
  have v7 := kP6.cell 7
  have v8 := kP6.cell 8
  have v9 := kP6.cell 9
  have v10 := kP6.cell 10
  have f7 := kP6.free 7
  have f8 := kP6.free 8
  have f9 := kP6.free 9
  have f10 := kP6.free 10
  have kP7 := (((kP6.put 7 (.string ⟨#[]⟩)).put 8 (.string ⟨#[]⟩)).put 9 (.bool false)).put 10 (.bool false)
  have kR7 := (((kR6.other (j := w.heap.size) (i := 7) (by omega) (.string ⟨#[]⟩)).other (j := w.heap.size) (i := 8) (by omega) (.string ⟨#[]⟩)).other (j := w.heap.size) (i := 9) (by omega) (.bool false)).other (j := w.heap.size) (i := 10) (by omega) (.bool false)
  have kS7 := (((kS6.other (j := w.heap.size) (i := 7) (by omega) (.string ⟨#[]⟩)).other (j := w.heap.size) (i := 8) (by omega) (.string ⟨#[]⟩)).other (j := w.heap.size) (i := 9) (by omega) (.bool false)).other (j := w.heap.size) (i := 10) (by omega) (.bool false)
  have kE7 := (((kE6.other (j := w.heap.size) (i := 7) (by omega) (.string ⟨#[]⟩)).other (j := w.heap.size) (i := 8) (by omega) (.string ⟨#[]⟩)).other (j := w.heap.size) (i := 9) (by omega) (.bool false)).other (j := w.heap.size) (i := 10) (by omega) (.bool false)
  have hB7 := (((hB6.setCell (p := ⟨w.heap.size, 7, none⟩) (Nat.le_refl _) (.string ⟨#[]⟩)).setCell (p := ⟨w.heap.size, 8, none⟩) (Nat.le_refl _) (.string ⟨#[]⟩)).setCell (p := ⟨w.heap.size, 9, none⟩) (Nat.le_refl _) (.bool false)).setCell (p := ⟨w.heap.size, 10, none⟩) (Nat.le_refl _) (.bool false)
  obtain ⟨w7, hw7⟩ : ∃ w7, ((((w6.setCell ⟨w.heap.size, 7, none⟩ (.string ⟨#[]⟩)).setCell ⟨w.heap.size, 8, none⟩ (.string ⟨#[]⟩)).setCell ⟨w.heap.size, 9, none⟩ (.bool false)).setCell ⟨w.heap.size, 10, none⟩ (.bool false)) = w7 := ⟨_, rfl⟩
  rw [hw7] at kP7 kR7 kS7 kE7 hB7
  have hw7' := Lib.hid hw7
  have hP7' := Lib.hid kP7
  have hR7' := Lib.hid kR7
  have hS7' := Lib.hid kS7
  have hB7' := Lib.hid hB7
  have hE7' := Lib.hid kE7
  clear hw7 kP7 kR7 kS7 kE7 hB7 kP6 kR6 kS6 kE6 hB6
  go_upto_region 6 with (fail)
  rw [hw7'.out]
  clear f7 f8 f9 f10 v7 v8 v9 v10
  have c0 := hP7'.out.cell 0
  have g0 := hR7'.out.cell 0
  have q0 := hR7'.out.free 0
  have c1 := hP7'.out.cell 1
  have g1 := hR7'.out.cell 1
  have q1 := hR7'.out.free 1
  have c2 := hP7'.out.cell 2
  have g2 := hR7'.out.cell 2
  have q2 := hR7'.out.free 2
  have c3 := hP7'.out.cell 3
  have g3 := hR7'.out.cell 3
  have q3 := hR7'.out.free 3
  have c4 := hP7'.out.cell 4
  have g4 := hR7'.out.cell 4
  have q4 := hR7'.out.free 4
  have c5 := hP7'.out.cell 5
  have g5 := hR7'.out.cell 5
  have q5 := hR7'.out.free 5
  have c6 := hP7'.out.cell 6
  have g6 := hR7'.out.cell 6
  have q6 := hR7'.out.free 6
  have c7 := hP7'.out.cell 7
  have g7 := hR7'.out.cell 7
  have q7 := hR7'.out.free 7
  have c8 := hP7'.out.cell 8
  have g8 := hR7'.out.cell 8
  have q8 := hR7'.out.free 8
  have c9 := hP7'.out.cell 9
  have g9 := hR7'.out.cell 9
  have q9 := hR7'.out.free 9
  have c10 := hP7'.out.cell 10
  have g10 := hR7'.out.cell 10
  have q10 := hR7'.out.free 10
  have s0 := hS7'.out.cell 0
  have j0 := hS7'.out.free 0
  have s1 := hS7'.out.cell 1
  have j1 := hS7'.out.free 1
  have s2 := hS7'.out.cell 2
  have j2 := hS7'.out.free 2
  have s3 := hS7'.out.cell 3
  have j3 := hS7'.out.free 3
  have s4 := hS7'.out.cell 4
  have j4 := hS7'.out.free 4
  go_wp2
  refine bodyPost_ret (v := .tuple #[.agg #[.slice A n c, .int .i64 (l : Int), .string lb, .bool any, .bool half, .int .i64 (m : Int), .string bi, .string ⟨#[]⟩, .string ⟨#[]⟩, .bool false, .bool false], .agg #[.int .i64 3, .string ⟨#[]⟩, .string ⟨#[]⟩, .string ⟨#[]⟩, .int .u64 0], .bool true]) (by simp [results, Tryz.results53, go_sem, g0, g1, g2, g3, g4, g5, g6, g7, g8, g9, g10, s0, s1, s2, s3, s4]) rfl ⟨rfl, ?_⟩
  have hr1 : w.heap.size ≤ w.heap.size + 1 := by omega
  have hr2 : w.heap.size ≤ w.heap.size + 1 + 1 := by omega
  exact ((((((((((((((((hB7'.out.setCell (p := ⟨w.heap.size + 1, 0, none⟩) hr1 _).setCell (p := ⟨w.heap.size + 1, 1, none⟩) hr1 _).setCell (p := ⟨w.heap.size + 1, 2, none⟩) hr1 _).setCell (p := ⟨w.heap.size + 1, 3, none⟩) hr1 _).setCell (p := ⟨w.heap.size + 1, 4, none⟩) hr1 _).setCell (p := ⟨w.heap.size + 1, 5, none⟩) hr1 _).setCell (p := ⟨w.heap.size + 1, 6, none⟩) hr1 _).setCell (p := ⟨w.heap.size + 1, 7, none⟩) hr1 _).setCell (p := ⟨w.heap.size + 1, 8, none⟩) hr1 _).setCell (p := ⟨w.heap.size + 1, 9, none⟩) hr1 _).setCell (p := ⟨w.heap.size + 1, 10, none⟩) hr1 _).setCell (p := ⟨w.heap.size + 1 + 1, 0, none⟩) hr2 _).setCell (p := ⟨w.heap.size + 1 + 1, 1, none⟩) hr2 _).setCell (p := ⟨w.heap.size + 1 + 1, 2, none⟩) hr2 _).setCell (p := ⟨w.heap.size + 1 + 1, 3, none⟩) hr2 _).setCell (p := ⟨w.heap.size + 1 + 1, 4, none⟩) hr2 _)
set_option maxRecDepth 100000 in
set_option maxHeartbeats 2000000 in
theorem ends_none (A : Option Addr) (n c l m : Nat) (lb bi bt bd : ByteArray) (any half : Bool) (w : World) (hi : bi.size ≤ 1000000) (ht : bt.size ≤ 1000000) (hd : bd.size ≤ 1000000) (hm : m ≤ 65536) (hle : bi.size + bt.size ≤ m) :
    Calls Tryz.prog 53 #[.agg #[.slice A n c, .int .i64 (l : Int), .string lb, .bool any, .bool half, .int .i64 (m : Int), .string bi, .string bt, .string bd, .bool false, .bool false]] w fun e w' => e = .returned (.tuple #[.agg #[.slice A n c, .int .i64 (l : Int), .string lb, .bool any, .bool half, .int .i64 (m : Int), .string bi, .string ⟨#[]⟩, .string ⟨#[]⟩, .bool false, .bool false], .agg #[.int .i64 0, .string ⟨#[]⟩, .string ⟨#[]⟩, .string ⟨#[]⟩, .int .u64 0], .bool false]) ∧ Below w.heap.size w w' := by
  have hB4 : Below w.heap.size w ((((w.alloc (.cells #[.slice A n c, .int .i64 (l : Int), .string lb, .bool any, .bool half, .int .i64 (m : Int), .string bi, .string bt, .string bd, .bool false, .bool false] 51)).alloc (.cells #[.slice none 0 0, .int .i64 0, .string ⟨#[]⟩, .bool false, .bool false, .int .i64 0, .string ⟨#[]⟩, .string ⟨#[]⟩, .string ⟨#[]⟩, .bool false, .bool false] 51)).alloc (.cells #[.int .i64 0, .string ⟨#[]⟩, .string ⟨#[]⟩, .string ⟨#[]⟩, .int .u64 0] 40)).alloc (.cells #[.string bi, .string bt, .string ⟨#[]⟩] 37)) := ((((Below.refl _ _).alloc (Nat.le_refl _) _).alloc (by simp) _).alloc (by simp; omega) _).alloc (by simp; omega) _
  have kP := (((Has.new w 51 #[.slice A n c, .int .i64 (l : Int), .string lb, .bool any, .bool half, .int .i64 (m : Int), .string bi, .string bt, .string bd, .bool false, .bool false]).alloc (.cells #[.slice none 0 0, .int .i64 0, .string ⟨#[]⟩, .bool false, .bool false, .int .i64 0, .string ⟨#[]⟩, .string ⟨#[]⟩, .string ⟨#[]⟩, .bool false, .bool false] 51)).alloc (.cells #[.int .i64 0, .string ⟨#[]⟩, .string ⟨#[]⟩, .string ⟨#[]⟩, .int .u64 0] 40)).alloc (.cells #[.string bi, .string bt, .string ⟨#[]⟩] 37)
  have kR := ((Has.new (w.alloc (.cells #[.slice A n c, .int .i64 (l : Int), .string lb, .bool any, .bool half, .int .i64 (m : Int), .string bi, .string bt, .string bd, .bool false, .bool false] 51)) 51 #[.slice none 0 0, .int .i64 0, .string ⟨#[]⟩, .bool false, .bool false, .int .i64 0, .string ⟨#[]⟩, .string ⟨#[]⟩, .string ⟨#[]⟩, .bool false, .bool false]).alloc (.cells #[.int .i64 0, .string ⟨#[]⟩, .string ⟨#[]⟩, .string ⟨#[]⟩, .int .u64 0] 40)).alloc (.cells #[.string bi, .string bt, .string ⟨#[]⟩] 37)
  have kS := (Has.new ((w.alloc (.cells #[.slice A n c, .int .i64 (l : Int), .string lb, .bool any, .bool half, .int .i64 (m : Int), .string bi, .string bt, .string bd, .bool false, .bool false] 51)).alloc (.cells #[.slice none 0 0, .int .i64 0, .string ⟨#[]⟩, .bool false, .bool false, .int .i64 0, .string ⟨#[]⟩, .string ⟨#[]⟩, .string ⟨#[]⟩, .bool false, .bool false] 51)) 40 #[.int .i64 0, .string ⟨#[]⟩, .string ⟨#[]⟩, .string ⟨#[]⟩, .int .u64 0]).alloc (.cells #[.string bi, .string bt, .string ⟨#[]⟩] 37)
  have kE := Has.new (((w.alloc (.cells #[.slice A n c, .int .i64 (l : Int), .string lb, .bool any, .bool half, .int .i64 (m : Int), .string bi, .string bt, .string bd, .bool false, .bool false] 51)).alloc (.cells #[.slice none 0 0, .int .i64 0, .string ⟨#[]⟩, .bool false, .bool false, .int .i64 0, .string ⟨#[]⟩, .string ⟨#[]⟩, .string ⟨#[]⟩, .bool false, .bool false] 51)).alloc (.cells #[.int .i64 0, .string ⟨#[]⟩, .string ⟨#[]⟩, .string ⟨#[]⟩, .int .u64 0] 40)) 37 #[.string bi, .string bt, .string ⟨#[]⟩]
  simp only [World.size_alloc] at kR kS kE
  obtain ⟨w4, hw4⟩ : ∃ w4, ((((w.alloc (.cells #[.slice A n c, .int .i64 (l : Int), .string lb, .bool any, .bool half, .int .i64 (m : Int), .string bi, .string bt, .string bd, .bool false, .bool false] 51)).alloc (.cells #[.slice none 0 0, .int .i64 0, .string ⟨#[]⟩, .bool false, .bool false, .int .i64 0, .string ⟨#[]⟩, .string ⟨#[]⟩, .string ⟨#[]⟩, .bool false, .bool false] 51)).alloc (.cells #[.int .i64 0, .string ⟨#[]⟩, .string ⟨#[]⟩, .string ⟨#[]⟩, .int .u64 0] 40)).alloc (.cells #[.string bi, .string bt, .string ⟨#[]⟩] 37)) = w4 := ⟨_, rfl⟩
  rw [hw4] at hB4 kP kR kS kE
  have hw4' := Lib.hid hw4
  have hB4' := Lib.hid hB4
  have p5 := kP.cell 5
  have p8 := kP.cell 8
  have p9 := kP.cell 9
  have p10 := kP.cell 10
  have e2 := kE.cell 2
  have f2 := kE.free 2
  have kP' := Lib.hid kP
  have kR' := Lib.hid kR
  have kS' := Lib.hid kS
  have kE' := Lib.hid kE
  clear hw4 hB4 kP kR kS kE
  go_enter Tryz.func53, Tryz.ntmps53
  go_upto_region 2 with (fail)
  rw [hw4'.out]
  go_upto_region 4 with (fail)
  have kE5 := kE'.out
  have kP5 := kP'.out
  have kR5 := kR'.out
  have kS5 := kS'.out
  have hB5 := hB4'.out
  obtain ⟨w5, hw5⟩ : ∃ w5, w4 = w5 := ⟨_, rfl⟩
  rw [hw5] at kE5 kP5 kR5 kS5 hB5 ⊢
  clear hw5 hw4' hB4' kP' kR' kS' kE' p5 p8 p9 p10 e2 f2
  have hP5' := Lib.hid kP5
  have hR5' := Lib.hid kR5
  have hS5' := Lib.hid kS5
  have hE5' := Lib.hid kE5
  have hB5' := Lib.hid hB5
  have p1 := kP5.cell 5
  have p9 := kP5.cell 9
  have p10 := kP5.cell 10
  have e0 := kE5.cell 0
  have e1 := kE5.cell 1
  have e2 := kE5.cell 2
  clear kE5 kP5 kR5 kS5 hB5
  have hg : ¬ (m : Int) < (bi.size : Int) + (bt.size : Int) := by omega
  go_quiet (fail)
  clear p1 p9 p10 e0 e1 e2
  have kP6 := hP5'.out.drewN nq
  have kR6 := hR5'.out.drewN nq
  have kS6 := hS5'.out.drewN nq
  have kE6 := hE5'.out.drewN nq
  have hB6 := below_draws hB5'.out nq
  obtain ⟨w6, hw6⟩ : ∃ w6, w5.drewN nq = w6 := ⟨_, rfl⟩
  rw [hw6] at kP6 kR6 kS6 kE6 hB6 ⊢
  clear hw6 hP5' hR5' hS5' hE5' hB5'
  have v7 := kP6.cell 7
  have v8 := kP6.cell 8
  have v9 := kP6.cell 9
  have v10 := kP6.cell 10
  have f7 := kP6.free 7
  have f8 := kP6.free 8
  have f9 := kP6.free 9
  have f10 := kP6.free 10
  have kP7 := (((kP6.put 7 (.string ⟨#[]⟩)).put 8 (.string ⟨#[]⟩)).put 9 (.bool false)).put 10 (.bool false)
  have kR7 := (((kR6.other (j := w.heap.size) (i := 7) (by omega) (.string ⟨#[]⟩)).other (j := w.heap.size) (i := 8) (by omega) (.string ⟨#[]⟩)).other (j := w.heap.size) (i := 9) (by omega) (.bool false)).other (j := w.heap.size) (i := 10) (by omega) (.bool false)
  have kS7 := (((kS6.other (j := w.heap.size) (i := 7) (by omega) (.string ⟨#[]⟩)).other (j := w.heap.size) (i := 8) (by omega) (.string ⟨#[]⟩)).other (j := w.heap.size) (i := 9) (by omega) (.bool false)).other (j := w.heap.size) (i := 10) (by omega) (.bool false)
  have kE7 := (((kE6.other (j := w.heap.size) (i := 7) (by omega) (.string ⟨#[]⟩)).other (j := w.heap.size) (i := 8) (by omega) (.string ⟨#[]⟩)).other (j := w.heap.size) (i := 9) (by omega) (.bool false)).other (j := w.heap.size) (i := 10) (by omega) (.bool false)
  have hB7 := (((hB6.setCell (p := ⟨w.heap.size, 7, none⟩) (Nat.le_refl _) (.string ⟨#[]⟩)).setCell (p := ⟨w.heap.size, 8, none⟩) (Nat.le_refl _) (.string ⟨#[]⟩)).setCell (p := ⟨w.heap.size, 9, none⟩) (Nat.le_refl _) (.bool false)).setCell (p := ⟨w.heap.size, 10, none⟩) (Nat.le_refl _) (.bool false)
  obtain ⟨w7, hw7⟩ : ∃ w7, ((((w6.setCell ⟨w.heap.size, 7, none⟩ (.string ⟨#[]⟩)).setCell ⟨w.heap.size, 8, none⟩ (.string ⟨#[]⟩)).setCell ⟨w.heap.size, 9, none⟩ (.bool false)).setCell ⟨w.heap.size, 10, none⟩ (.bool false)) = w7 := ⟨_, rfl⟩
  rw [hw7] at kP7 kR7 kS7 kE7 hB7
  have hw7' := Lib.hid hw7
  have hP7' := Lib.hid kP7
  have hR7' := Lib.hid kR7
  have hS7' := Lib.hid kS7
  have hB7' := Lib.hid hB7
  have hE7' := Lib.hid kE7
  clear hw7 kP7 kR7 kS7 kE7 hB7 kP6 kR6 kS6 kE6 hB6
  go_upto_region 6 with (fail)
  rw [hw7'.out]
  clear f7 f8 f9 f10 v7 v8 v9 v10
  have c0 := hP7'.out.cell 0
  have g0 := hR7'.out.cell 0
  have q0 := hR7'.out.free 0
  have c1 := hP7'.out.cell 1
  have g1 := hR7'.out.cell 1
  have q1 := hR7'.out.free 1
  have c2 := hP7'.out.cell 2
  have g2 := hR7'.out.cell 2
  have q2 := hR7'.out.free 2
  have c3 := hP7'.out.cell 3
  have g3 := hR7'.out.cell 3
  have q3 := hR7'.out.free 3
  have c4 := hP7'.out.cell 4
  have g4 := hR7'.out.cell 4
  have q4 := hR7'.out.free 4
  have c5 := hP7'.out.cell 5
  have g5 := hR7'.out.cell 5
  have q5 := hR7'.out.free 5
  have c6 := hP7'.out.cell 6
  have g6 := hR7'.out.cell 6
  have q6 := hR7'.out.free 6
  have c7 := hP7'.out.cell 7
  have g7 := hR7'.out.cell 7
  have q7 := hR7'.out.free 7
  have c8 := hP7'.out.cell 8
  have g8 := hR7'.out.cell 8
  have q8 := hR7'.out.free 8
  have c9 := hP7'.out.cell 9
  have g9 := hR7'.out.cell 9
  have q9 := hR7'.out.free 9
  have c10 := hP7'.out.cell 10
  have g10 := hR7'.out.cell 10
  have q10 := hR7'.out.free 10
  have s0 := hS7'.out.cell 0
  have j0 := hS7'.out.free 0
  have s1 := hS7'.out.cell 1
  have j1 := hS7'.out.free 1
  have s2 := hS7'.out.cell 2
  have j2 := hS7'.out.free 2
  have s3 := hS7'.out.cell 3
  have j3 := hS7'.out.free 3
  have s4 := hS7'.out.cell 4
  have j4 := hS7'.out.free 4
  go_wp2
  refine bodyPost_ret (v := .tuple #[.agg #[.slice A n c, .int .i64 (l : Int), .string lb, .bool any, .bool half, .int .i64 (m : Int), .string bi, .string ⟨#[]⟩, .string ⟨#[]⟩, .bool false, .bool false], .agg #[.int .i64 0, .string ⟨#[]⟩, .string ⟨#[]⟩, .string ⟨#[]⟩, .int .u64 0], .bool false]) (by simp [results, Tryz.results53, go_sem, g0, g1, g2, g3, g4, g5, g6, g7, g8, g9, g10, s0, s1, s2, s3, s4]) rfl ⟨rfl, ?_⟩
  have hr1 : w.heap.size ≤ w.heap.size + 1 := by omega
  have hr2 : w.heap.size ≤ w.heap.size + 1 + 1 := by omega
  exact ((((((((((((((((hB7'.out.setCell (p := ⟨w.heap.size + 1, 0, none⟩) hr1 _).setCell (p := ⟨w.heap.size + 1, 1, none⟩) hr1 _).setCell (p := ⟨w.heap.size + 1, 2, none⟩) hr1 _).setCell (p := ⟨w.heap.size + 1, 3, none⟩) hr1 _).setCell (p := ⟨w.heap.size + 1, 4, none⟩) hr1 _).setCell (p := ⟨w.heap.size + 1, 5, none⟩) hr1 _).setCell (p := ⟨w.heap.size + 1, 6, none⟩) hr1 _).setCell (p := ⟨w.heap.size + 1, 7, none⟩) hr1 _).setCell (p := ⟨w.heap.size + 1, 8, none⟩) hr1 _).setCell (p := ⟨w.heap.size + 1, 9, none⟩) hr1 _).setCell (p := ⟨w.heap.size + 1, 10, none⟩) hr1 _).setCell (p := ⟨w.heap.size + 1 + 1, 0, none⟩) hr2 _).setCell (p := ⟨w.heap.size + 1 + 1, 1, none⟩) hr2 _).setCell (p := ⟨w.heap.size + 1 + 1, 2, none⟩) hr2 _).setCell (p := ⟨w.heap.size + 1 + 1, 3, none⟩) hr2 _).setCell (p := ⟨w.heap.size + 1 + 1, 4, none⟩) hr2 _)
set_option maxRecDepth 100000 in
set_option maxHeartbeats 2000000 in
theorem ends_much (A : Option Addr) (n c l m : Nat) (lb bi bt bd : ByteArray) (any half : Bool) (w : World) (hi : bi.size ≤ 1000000) (ht : bt.size ≤ 1000000) (hd : bd.size ≤ 1000000) (hm : m ≤ 65536) (hle : m < bi.size + bt.size) :
    Calls Tryz.prog 53 #[.agg #[.slice A n c, .int .i64 (l : Int), .string lb, .bool any, .bool half, .int .i64 (m : Int), .string bi, .string bt, .string bd, .bool false, .bool false]] w fun e w' => e = .returned (.tuple #[.agg #[.slice A n c, .int .i64 (l : Int), .string lb, .bool any, .bool half, .int .i64 (m : Int), .string bi, .string ⟨#[]⟩, .string ⟨#[]⟩, .bool false, .bool false], .agg #[.int .i64 3, .string ⟨#[]⟩, .string ⟨#[]⟩, .string ⟨#[]⟩, .int .u64 0], .bool true]) ∧ Below w.heap.size w w' := by
  have hB4 : Below w.heap.size w ((((w.alloc (.cells #[.slice A n c, .int .i64 (l : Int), .string lb, .bool any, .bool half, .int .i64 (m : Int), .string bi, .string bt, .string bd, .bool false, .bool false] 51)).alloc (.cells #[.slice none 0 0, .int .i64 0, .string ⟨#[]⟩, .bool false, .bool false, .int .i64 0, .string ⟨#[]⟩, .string ⟨#[]⟩, .string ⟨#[]⟩, .bool false, .bool false] 51)).alloc (.cells #[.int .i64 0, .string ⟨#[]⟩, .string ⟨#[]⟩, .string ⟨#[]⟩, .int .u64 0] 40)).alloc (.cells #[.string bi, .string bt, .string ⟨#[]⟩] 37)) := ((((Below.refl _ _).alloc (Nat.le_refl _) _).alloc (by simp) _).alloc (by simp; omega) _).alloc (by simp; omega) _
  have kP := (((Has.new w 51 #[.slice A n c, .int .i64 (l : Int), .string lb, .bool any, .bool half, .int .i64 (m : Int), .string bi, .string bt, .string bd, .bool false, .bool false]).alloc (.cells #[.slice none 0 0, .int .i64 0, .string ⟨#[]⟩, .bool false, .bool false, .int .i64 0, .string ⟨#[]⟩, .string ⟨#[]⟩, .string ⟨#[]⟩, .bool false, .bool false] 51)).alloc (.cells #[.int .i64 0, .string ⟨#[]⟩, .string ⟨#[]⟩, .string ⟨#[]⟩, .int .u64 0] 40)).alloc (.cells #[.string bi, .string bt, .string ⟨#[]⟩] 37)
  have kR := ((Has.new (w.alloc (.cells #[.slice A n c, .int .i64 (l : Int), .string lb, .bool any, .bool half, .int .i64 (m : Int), .string bi, .string bt, .string bd, .bool false, .bool false] 51)) 51 #[.slice none 0 0, .int .i64 0, .string ⟨#[]⟩, .bool false, .bool false, .int .i64 0, .string ⟨#[]⟩, .string ⟨#[]⟩, .string ⟨#[]⟩, .bool false, .bool false]).alloc (.cells #[.int .i64 0, .string ⟨#[]⟩, .string ⟨#[]⟩, .string ⟨#[]⟩, .int .u64 0] 40)).alloc (.cells #[.string bi, .string bt, .string ⟨#[]⟩] 37)
  have kS := (Has.new ((w.alloc (.cells #[.slice A n c, .int .i64 (l : Int), .string lb, .bool any, .bool half, .int .i64 (m : Int), .string bi, .string bt, .string bd, .bool false, .bool false] 51)).alloc (.cells #[.slice none 0 0, .int .i64 0, .string ⟨#[]⟩, .bool false, .bool false, .int .i64 0, .string ⟨#[]⟩, .string ⟨#[]⟩, .string ⟨#[]⟩, .bool false, .bool false] 51)) 40 #[.int .i64 0, .string ⟨#[]⟩, .string ⟨#[]⟩, .string ⟨#[]⟩, .int .u64 0]).alloc (.cells #[.string bi, .string bt, .string ⟨#[]⟩] 37)
  have kE := Has.new (((w.alloc (.cells #[.slice A n c, .int .i64 (l : Int), .string lb, .bool any, .bool half, .int .i64 (m : Int), .string bi, .string bt, .string bd, .bool false, .bool false] 51)).alloc (.cells #[.slice none 0 0, .int .i64 0, .string ⟨#[]⟩, .bool false, .bool false, .int .i64 0, .string ⟨#[]⟩, .string ⟨#[]⟩, .string ⟨#[]⟩, .bool false, .bool false] 51)).alloc (.cells #[.int .i64 0, .string ⟨#[]⟩, .string ⟨#[]⟩, .string ⟨#[]⟩, .int .u64 0] 40)) 37 #[.string bi, .string bt, .string ⟨#[]⟩]
  simp only [World.size_alloc] at kR kS kE
  obtain ⟨w4, hw4⟩ : ∃ w4, ((((w.alloc (.cells #[.slice A n c, .int .i64 (l : Int), .string lb, .bool any, .bool half, .int .i64 (m : Int), .string bi, .string bt, .string bd, .bool false, .bool false] 51)).alloc (.cells #[.slice none 0 0, .int .i64 0, .string ⟨#[]⟩, .bool false, .bool false, .int .i64 0, .string ⟨#[]⟩, .string ⟨#[]⟩, .string ⟨#[]⟩, .bool false, .bool false] 51)).alloc (.cells #[.int .i64 0, .string ⟨#[]⟩, .string ⟨#[]⟩, .string ⟨#[]⟩, .int .u64 0] 40)).alloc (.cells #[.string bi, .string bt, .string ⟨#[]⟩] 37)) = w4 := ⟨_, rfl⟩
  rw [hw4] at hB4 kP kR kS kE
  have hw4' := Lib.hid hw4
  have hB4' := Lib.hid hB4
  have p5 := kP.cell 5
  have p8 := kP.cell 8
  have p9 := kP.cell 9
  have p10 := kP.cell 10
  have e2 := kE.cell 2
  have f2 := kE.free 2
  have kP' := Lib.hid kP
  have kR' := Lib.hid kR
  have kS' := Lib.hid kS
  have kE' := Lib.hid kE
  clear hw4 hB4 kP kR kS kE
  go_enter Tryz.func53, Tryz.ntmps53
  go_upto_region 2 with (fail)
  rw [hw4'.out]
  go_upto_region 4 with (fail)
  have kE5 := kE'.out
  have kP5 := kP'.out
  have kR5 := kR'.out
  have kS5 := kS'.out
  have hB5 := hB4'.out
  obtain ⟨w5, hw5⟩ : ∃ w5, w4 = w5 := ⟨_, rfl⟩
  rw [hw5] at kE5 kP5 kR5 kS5 hB5 ⊢
  clear hw5 hw4' hB4' kP' kR' kS' kE' p5 p8 p9 p10 e2 f2
  have hP5' := Lib.hid kP5
  have hR5' := Lib.hid kR5
  have hS5' := Lib.hid kS5
  have hE5' := Lib.hid kE5
  have hB5' := Lib.hid hB5
  have p1 := kP5.cell 5
  have p9 := kP5.cell 9
  have p10 := kP5.cell 10
  have e0 := kE5.cell 0
  have e1 := kE5.cell 1
  have e2 := kE5.cell 2
  clear kE5 kP5 kR5 kS5 hB5
  have hg : (m : Int) < (bi.size : Int) + (bt.size : Int) := by omega
  go_quiet (fail)
  clear p1 p9 p10 e0 e1 e2
  have kP6 := hP5'.out.drewN nq
  have kR6 := hR5'.out.drewN nq
  have kS6 := hS5'.out.drewN nq
  have kE6 := hE5'.out.drewN nq
  have hB6 := below_draws hB5'.out nq
  obtain ⟨w6, hw6⟩ : ∃ w6, w5.drewN nq = w6 := ⟨_, rfl⟩
  rw [hw6] at kP6 kR6 kS6 kE6 hB6 ⊢
  clear hw6 hP5' hR5' hS5' hE5' hB5'
  have v7 := kP6.cell 7
  have v8 := kP6.cell 8
  have v9 := kP6.cell 9
  have v10 := kP6.cell 10
  have f7 := kP6.free 7
  have f8 := kP6.free 8
  have f9 := kP6.free 9
  have f10 := kP6.free 10
  have kP7 := (((kP6.put 7 (.string ⟨#[]⟩)).put 8 (.string ⟨#[]⟩)).put 9 (.bool false)).put 10 (.bool false)
  have kR7 := (((kR6.other (j := w.heap.size) (i := 7) (by omega) (.string ⟨#[]⟩)).other (j := w.heap.size) (i := 8) (by omega) (.string ⟨#[]⟩)).other (j := w.heap.size) (i := 9) (by omega) (.bool false)).other (j := w.heap.size) (i := 10) (by omega) (.bool false)
  have kS7 := (((kS6.other (j := w.heap.size) (i := 7) (by omega) (.string ⟨#[]⟩)).other (j := w.heap.size) (i := 8) (by omega) (.string ⟨#[]⟩)).other (j := w.heap.size) (i := 9) (by omega) (.bool false)).other (j := w.heap.size) (i := 10) (by omega) (.bool false)
  have kE7 := (((kE6.other (j := w.heap.size) (i := 7) (by omega) (.string ⟨#[]⟩)).other (j := w.heap.size) (i := 8) (by omega) (.string ⟨#[]⟩)).other (j := w.heap.size) (i := 9) (by omega) (.bool false)).other (j := w.heap.size) (i := 10) (by omega) (.bool false)
  have hB7 := (((hB6.setCell (p := ⟨w.heap.size, 7, none⟩) (Nat.le_refl _) (.string ⟨#[]⟩)).setCell (p := ⟨w.heap.size, 8, none⟩) (Nat.le_refl _) (.string ⟨#[]⟩)).setCell (p := ⟨w.heap.size, 9, none⟩) (Nat.le_refl _) (.bool false)).setCell (p := ⟨w.heap.size, 10, none⟩) (Nat.le_refl _) (.bool false)
  obtain ⟨w7, hw7⟩ : ∃ w7, ((((w6.setCell ⟨w.heap.size, 7, none⟩ (.string ⟨#[]⟩)).setCell ⟨w.heap.size, 8, none⟩ (.string ⟨#[]⟩)).setCell ⟨w.heap.size, 9, none⟩ (.bool false)).setCell ⟨w.heap.size, 10, none⟩ (.bool false)) = w7 := ⟨_, rfl⟩
  rw [hw7] at kP7 kR7 kS7 kE7 hB7
  have hw7' := Lib.hid hw7
  have hP7' := Lib.hid kP7
  have hR7' := Lib.hid kR7
  have hS7' := Lib.hid kS7
  have hB7' := Lib.hid hB7
  have hE7' := Lib.hid kE7
  clear hw7 kP7 kR7 kS7 kE7 hB7 kP6 kR6 kS6 kE6 hB6
  go_upto_region 6 with (fail)
  rw [hw7'.out]
  clear f7 f8 f9 f10 v7 v8 v9 v10
  have c0 := hP7'.out.cell 0
  have g0 := hR7'.out.cell 0
  have q0 := hR7'.out.free 0
  have c1 := hP7'.out.cell 1
  have g1 := hR7'.out.cell 1
  have q1 := hR7'.out.free 1
  have c2 := hP7'.out.cell 2
  have g2 := hR7'.out.cell 2
  have q2 := hR7'.out.free 2
  have c3 := hP7'.out.cell 3
  have g3 := hR7'.out.cell 3
  have q3 := hR7'.out.free 3
  have c4 := hP7'.out.cell 4
  have g4 := hR7'.out.cell 4
  have q4 := hR7'.out.free 4
  have c5 := hP7'.out.cell 5
  have g5 := hR7'.out.cell 5
  have q5 := hR7'.out.free 5
  have c6 := hP7'.out.cell 6
  have g6 := hR7'.out.cell 6
  have q6 := hR7'.out.free 6
  have c7 := hP7'.out.cell 7
  have g7 := hR7'.out.cell 7
  have q7 := hR7'.out.free 7
  have c8 := hP7'.out.cell 8
  have g8 := hR7'.out.cell 8
  have q8 := hR7'.out.free 8
  have c9 := hP7'.out.cell 9
  have g9 := hR7'.out.cell 9
  have q9 := hR7'.out.free 9
  have c10 := hP7'.out.cell 10
  have g10 := hR7'.out.cell 10
  have q10 := hR7'.out.free 10
  have s0 := hS7'.out.cell 0
  have j0 := hS7'.out.free 0
  have s1 := hS7'.out.cell 1
  have j1 := hS7'.out.free 1
  have s2 := hS7'.out.cell 2
  have j2 := hS7'.out.free 2
  have s3 := hS7'.out.cell 3
  have j3 := hS7'.out.free 3
  have s4 := hS7'.out.cell 4
  have j4 := hS7'.out.free 4
  go_wp2
  refine bodyPost_ret (v := .tuple #[.agg #[.slice A n c, .int .i64 (l : Int), .string lb, .bool any, .bool half, .int .i64 (m : Int), .string bi, .string ⟨#[]⟩, .string ⟨#[]⟩, .bool false, .bool false], .agg #[.int .i64 3, .string ⟨#[]⟩, .string ⟨#[]⟩, .string ⟨#[]⟩, .int .u64 0], .bool true]) (by simp [results, Tryz.results53, go_sem, g0, g1, g2, g3, g4, g5, g6, g7, g8, g9, g10, s0, s1, s2, s3, s4]) rfl ⟨rfl, ?_⟩
  have hr1 : w.heap.size ≤ w.heap.size + 1 := by omega
  have hr2 : w.heap.size ≤ w.heap.size + 1 + 1 := by omega
  exact ((((((((((((((((hB7'.out.setCell (p := ⟨w.heap.size + 1, 0, none⟩) hr1 _).setCell (p := ⟨w.heap.size + 1, 1, none⟩) hr1 _).setCell (p := ⟨w.heap.size + 1, 2, none⟩) hr1 _).setCell (p := ⟨w.heap.size + 1, 3, none⟩) hr1 _).setCell (p := ⟨w.heap.size + 1, 4, none⟩) hr1 _).setCell (p := ⟨w.heap.size + 1, 5, none⟩) hr1 _).setCell (p := ⟨w.heap.size + 1, 6, none⟩) hr1 _).setCell (p := ⟨w.heap.size + 1, 7, none⟩) hr1 _).setCell (p := ⟨w.heap.size + 1, 8, none⟩) hr1 _).setCell (p := ⟨w.heap.size + 1, 9, none⟩) hr1 _).setCell (p := ⟨w.heap.size + 1, 10, none⟩) hr1 _).setCell (p := ⟨w.heap.size + 1 + 1, 0, none⟩) hr2 _).setCell (p := ⟨w.heap.size + 1 + 1, 1, none⟩) hr2 _).setCell (p := ⟨w.heap.size + 1 + 1, 2, none⟩) hr2 _).setCell (p := ⟨w.heap.size + 1 + 1, 3, none⟩) hr2 _).setCell (p := ⟨w.heap.size + 1 + 1, 4, none⟩) hr2 _)
end Go.Proofs.YtlcfpnegpihicaaGreatDoor

namespace Go.Proofs.YtlcfpnegpihicaaGreatDoor
open Go.RowKit Go.Shelf
attribute [local go_sem] Oper.semAt_some

/-! ## The document's parser: a line -/
set_option maxRecDepth 100000 in
set_option maxHeartbeats 2000000 in
theorem line_long (A : Option Addr) (n c l m : Nat) (lb bi bt bd lt : ByteArray) (any half so lo : Bool) (w : World) (hi : bi.size ≤ 1000000) (ht : bt.size ≤ 1000000) (hd : bd.size ≤ 1000000) (hm : m ≤ 65536) :
    Calls Tryz.prog 33 #[.agg #[.slice A n c, .int .i64 (l : Int), .string lb, .bool any, .bool half, .int .i64 (m : Int), .string bi, .string bt, .string bd, .bool so, .bool lo], .agg #[.string lt, .bool true]] w fun e w' => e = .returned (.tuple #[.agg #[.slice A n c, .int .i64 (l : Int), .string lb, .bool any, .bool half, .int .i64 (m : Int), .string bi, .string bt, .string bd, .bool so, .bool true], .agg #[.int .i64 0, .string ⟨#[]⟩, .string ⟨#[]⟩, .string ⟨#[]⟩, .int .u64 0], .bool false]) ∧ Below w.heap.size w w' := by
  have hB : Below w.heap.size w ((((w.alloc (.cells #[.slice A n c, .int .i64 (l : Int), .string lb, .bool any, .bool half, .int .i64 (m : Int), .string bi, .string bt, .string bd, .bool so, .bool lo] 51)).alloc (.cells #[.string lt, .bool true] 92)).alloc (.cells #[.slice none 0 0, .int .i64 0, .string ⟨#[]⟩, .bool false, .bool false, .int .i64 0, .string ⟨#[]⟩, .string ⟨#[]⟩, .string ⟨#[]⟩, .bool false, .bool false] 51)).alloc (.cells #[.int .i64 0, .string ⟨#[]⟩, .string ⟨#[]⟩, .string ⟨#[]⟩, .int .u64 0] 40)) := ((((Below.refl _ _).alloc (Nat.le_refl _) _).alloc (by simp) _).alloc (by simp; omega) _).alloc (by simp; omega) _
  have kP := (((Has.new w 51 #[.slice A n c, .int .i64 (l : Int), .string lb, .bool any, .bool half, .int .i64 (m : Int), .string bi, .string bt, .string bd, .bool so, .bool lo]).alloc (.cells #[.string lt, .bool true] 92)).alloc (.cells #[.slice none 0 0, .int .i64 0, .string ⟨#[]⟩, .bool false, .bool false, .int .i64 0, .string ⟨#[]⟩, .string ⟨#[]⟩, .string ⟨#[]⟩, .bool false, .bool false] 51)).alloc (.cells #[.int .i64 0, .string ⟨#[]⟩, .string ⟨#[]⟩, .string ⟨#[]⟩, .int .u64 0] 40)
  have kL := ((Has.new (w.alloc (.cells #[.slice A n c, .int .i64 (l : Int), .string lb, .bool any, .bool half, .int .i64 (m : Int), .string bi, .string bt, .string bd, .bool so, .bool lo] 51)) 92 #[.string lt, .bool true]).alloc (.cells #[.slice none 0 0, .int .i64 0, .string ⟨#[]⟩, .bool false, .bool false, .int .i64 0, .string ⟨#[]⟩, .string ⟨#[]⟩, .string ⟨#[]⟩, .bool false, .bool false] 51)).alloc (.cells #[.int .i64 0, .string ⟨#[]⟩, .string ⟨#[]⟩, .string ⟨#[]⟩, .int .u64 0] 40)
  have kR := (Has.new ((w.alloc (.cells #[.slice A n c, .int .i64 (l : Int), .string lb, .bool any, .bool half, .int .i64 (m : Int), .string bi, .string bt, .string bd, .bool so, .bool lo] 51)).alloc (.cells #[.string lt, .bool true] 92)) 51 #[.slice none 0 0, .int .i64 0, .string ⟨#[]⟩, .bool false, .bool false, .int .i64 0, .string ⟨#[]⟩, .string ⟨#[]⟩, .string ⟨#[]⟩, .bool false, .bool false]).alloc (.cells #[.int .i64 0, .string ⟨#[]⟩, .string ⟨#[]⟩, .string ⟨#[]⟩, .int .u64 0] 40)
  have kS := Has.new (((w.alloc (.cells #[.slice A n c, .int .i64 (l : Int), .string lb, .bool any, .bool half, .int .i64 (m : Int), .string bi, .string bt, .string bd, .bool so, .bool lo] 51)).alloc (.cells #[.string lt, .bool true] 92)).alloc (.cells #[.slice none 0 0, .int .i64 0, .string ⟨#[]⟩, .bool false, .bool false, .int .i64 0, .string ⟨#[]⟩, .string ⟨#[]⟩, .string ⟨#[]⟩, .bool false, .bool false] 51)) 40 #[.int .i64 0, .string ⟨#[]⟩, .string ⟨#[]⟩, .string ⟨#[]⟩, .int .u64 0]
  simp only [World.size_alloc] at kL kR kS
  have hz : w.heap.size + 1 + 1 + 1 + 1 = ((((w.alloc (.cells #[.slice A n c, .int .i64 (l : Int), .string lb, .bool any, .bool half, .int .i64 (m : Int), .string bi, .string bt, .string bd, .bool so, .bool lo] 51)).alloc (.cells #[.string lt, .bool true] 92)).alloc (.cells #[.slice none 0 0, .int .i64 0, .string ⟨#[]⟩, .bool false, .bool false, .int .i64 0, .string ⟨#[]⟩, .string ⟨#[]⟩, .string ⟨#[]⟩, .bool false, .bool false] 51)).alloc (.cells #[.int .i64 0, .string ⟨#[]⟩, .string ⟨#[]⟩, .string ⟨#[]⟩, .int .u64 0] 40)).heap.size := by simp
  obtain ⟨w4, hw4⟩ : ∃ w4, ((((w.alloc (.cells #[.slice A n c, .int .i64 (l : Int), .string lb, .bool any, .bool half, .int .i64 (m : Int), .string bi, .string bt, .string bd, .bool so, .bool lo] 51)).alloc (.cells #[.string lt, .bool true] 92)).alloc (.cells #[.slice none 0 0, .int .i64 0, .string ⟨#[]⟩, .bool false, .bool false, .int .i64 0, .string ⟨#[]⟩, .string ⟨#[]⟩, .string ⟨#[]⟩, .bool false, .bool false] 51)).alloc (.cells #[.int .i64 0, .string ⟨#[]⟩, .string ⟨#[]⟩, .string ⟨#[]⟩, .int .u64 0] 40)) = w4 := ⟨_, rfl⟩
  rw [hw4] at hB kP kL kR kS hz
  have l0 := kL.cell 0
  have l1 := kL.cell 1
  have hz' := Lib.hid hz
  have hw4' := Lib.hid hw4
  have hB' := Lib.hid hB
  have hP' := Lib.hid kP
  have hR' := Lib.hid kR
  have hS' := Lib.hid kS
  clear hw4 hB kP kL kR kS hz
  go_enter Tryz.func33, Tryz.ntmps33
  go_upto_region 2 with (fail)
  rw [hw4'.out]
  clear hw4'
  have v10 := hP'.out.cell 10
  have f10 := hP'.out.free 10
  have kP := hP'.out.put 10 (.bool true)
  have kR := hR'.out.other (j := w.heap.size) (i := 10) (by omega) (.bool true)
  have kS := hS'.out.other (j := w.heap.size) (i := 10) (by omega) (.bool true)
  have kB := hB'.out.setCell (p := ⟨w.heap.size, 10, none⟩) (Nat.le_refl _) (.bool true)
  obtain ⟨u1, hn⟩ : ∃ x, w4.setCell ⟨w.heap.size, 10, none⟩ (.bool true) = x := ⟨_, rfl⟩
  rw [hn] at kP kR kS kB
  have hn' := Lib.hid hn
  clear hP' hR' hS' hB' hn
  have hP' := Lib.hid kP
  have hR' := Lib.hid kR
  have hS' := Lib.hid kS
  have hB' := Lib.hid kB
  clear kP kR kS kB
  go_upto_region 3 with (fail)
  rw [hn'.out]
  clear hn' v10 f10
  have c0 := hP'.out.cell 0
  have c1 := hP'.out.cell 1
  have c2 := hP'.out.cell 2
  have c3 := hP'.out.cell 3
  have c4 := hP'.out.cell 4
  have c5 := hP'.out.cell 5
  have c6 := hP'.out.cell 6
  have c7 := hP'.out.cell 7
  have c8 := hP'.out.cell 8
  have c9 := hP'.out.cell 9
  have c10 := hP'.out.cell 10
  have g0 := hR'.out.cell 0
  have q0 := hR'.out.free 0
  have g1 := hR'.out.cell 1
  have q1 := hR'.out.free 1
  have g2 := hR'.out.cell 2
  have q2 := hR'.out.free 2
  have g3 := hR'.out.cell 3
  have q3 := hR'.out.free 3
  have g4 := hR'.out.cell 4
  have q4 := hR'.out.free 4
  have g5 := hR'.out.cell 5
  have q5 := hR'.out.free 5
  have g6 := hR'.out.cell 6
  have q6 := hR'.out.free 6
  have g7 := hR'.out.cell 7
  have q7 := hR'.out.free 7
  have g8 := hR'.out.cell 8
  have q8 := hR'.out.free 8
  have g9 := hR'.out.cell 9
  have q9 := hR'.out.free 9
  have g10 := hR'.out.cell 10
  have q10 := hR'.out.free 10
  have s0 := hS'.out.cell 0
  have j0 := hS'.out.free 0
  have s1 := hS'.out.cell 1
  have j1 := hS'.out.free 1
  have s2 := hS'.out.cell 2
  have j2 := hS'.out.free 2
  have s3 := hS'.out.cell 3
  have j3 := hS'.out.free 3
  have s4 := hS'.out.cell 4
  have j4 := hS'.out.free 4
  go_wp2
  refine bodyPost_ret (v := .tuple #[.agg #[.slice A n c, .int .i64 (l : Int), .string lb, .bool any, .bool half, .int .i64 (m : Int), .string bi, .string bt, .string bd, .bool so, .bool true], .agg #[.int .i64 0, .string ⟨#[]⟩, .string ⟨#[]⟩, .string ⟨#[]⟩, .int .u64 0], .bool false]) (by simp [results, Tryz.results33, go_sem, g0, g1, g2, g3, g4, g5, g6, g7, g8, g9, g10, s0, s1, s2, s3, s4]) rfl ⟨rfl, ?_⟩
  have hr1 : w.heap.size ≤ w.heap.size + 1 + 1 := by omega
  have hr2 : w.heap.size ≤ w.heap.size + 1 + 1 + 1 := by omega
  exact ((((((((((((((((hB'.out.setCell (p := ⟨w.heap.size + 1 + 1, 0, none⟩) hr1 _).setCell (p := ⟨w.heap.size + 1 + 1, 1, none⟩) hr1 _).setCell (p := ⟨w.heap.size + 1 + 1, 2, none⟩) hr1 _).setCell (p := ⟨w.heap.size + 1 + 1, 3, none⟩) hr1 _).setCell (p := ⟨w.heap.size + 1 + 1, 4, none⟩) hr1 _).setCell (p := ⟨w.heap.size + 1 + 1, 5, none⟩) hr1 _).setCell (p := ⟨w.heap.size + 1 + 1, 6, none⟩) hr1 _).setCell (p := ⟨w.heap.size + 1 + 1, 7, none⟩) hr1 _).setCell (p := ⟨w.heap.size + 1 + 1, 8, none⟩) hr1 _).setCell (p := ⟨w.heap.size + 1 + 1, 9, none⟩) hr1 _).setCell (p := ⟨w.heap.size + 1 + 1, 10, none⟩) hr1 _).setCell (p := ⟨w.heap.size + 1 + 1 + 1, 0, none⟩) hr2 _).setCell (p := ⟨w.heap.size + 1 + 1 + 1, 1, none⟩) hr2 _).setCell (p := ⟨w.heap.size + 1 + 1 + 1, 2, none⟩) hr2 _).setCell (p := ⟨w.heap.size + 1 + 1 + 1, 3, none⟩) hr2 _).setCell (p := ⟨w.heap.size + 1 + 1 + 1, 4, none⟩) hr2 _)
set_option maxRecDepth 100000 in
set_option maxHeartbeats 2000000 in
theorem line_not (A : Option Addr) (n c l m : Nat) (lb bi bt bd lt : ByteArray) (any half so lo : Bool) (w : World) (hi : bi.size ≤ 1000000) (ht : bt.size ≤ 1000000) (hd : bd.size ≤ 1000000) (hm : m ≤ 65536) (fk : Int) (fn fv : ByteArray) (hv : fv.size ≤ 1000000) (hof : ∀ W, Calls Tryz.prog 51 #[.string lt] W fun e W' => e = .returned (.agg #[.int .i64 fk, .string fn, .string fv]) ∧ Below W.heap.size W W') (hco : ∀ W, Calls Tryz.prog 52 #[.agg #[.int .i64 fk, .string fn, .string fv]] W fun e W' => e = .returned (.bool false) ∧ Below W.heap.size W W') :
    Calls Tryz.prog 33 #[.agg #[.slice A n c, .int .i64 (l : Int), .string lb, .bool any, .bool half, .int .i64 (m : Int), .string bi, .string bt, .string bd, .bool so, .bool lo], .agg #[.string lt, .bool false]] w fun e w' => e = .returned (.tuple #[.agg #[.slice A n c, .int .i64 (l : Int), .string lb, .bool any, .bool half, .int .i64 (m : Int), .string bi, .string bt, .string bd, .bool so, .bool lo], .agg #[.int .i64 0, .string ⟨#[]⟩, .string ⟨#[]⟩, .string ⟨#[]⟩, .int .u64 0], .bool false]) ∧ Below w.heap.size w w' := by
  have hB : Below w.heap.size w ((((w.alloc (.cells #[.slice A n c, .int .i64 (l : Int), .string lb, .bool any, .bool half, .int .i64 (m : Int), .string bi, .string bt, .string bd, .bool so, .bool lo] 51)).alloc (.cells #[.string lt, .bool false] 92)).alloc (.cells #[.slice none 0 0, .int .i64 0, .string ⟨#[]⟩, .bool false, .bool false, .int .i64 0, .string ⟨#[]⟩, .string ⟨#[]⟩, .string ⟨#[]⟩, .bool false, .bool false] 51)).alloc (.cells #[.int .i64 0, .string ⟨#[]⟩, .string ⟨#[]⟩, .string ⟨#[]⟩, .int .u64 0] 40)) := ((((Below.refl _ _).alloc (Nat.le_refl _) _).alloc (by simp) _).alloc (by simp; omega) _).alloc (by simp; omega) _
  have kP := (((Has.new w 51 #[.slice A n c, .int .i64 (l : Int), .string lb, .bool any, .bool half, .int .i64 (m : Int), .string bi, .string bt, .string bd, .bool so, .bool lo]).alloc (.cells #[.string lt, .bool false] 92)).alloc (.cells #[.slice none 0 0, .int .i64 0, .string ⟨#[]⟩, .bool false, .bool false, .int .i64 0, .string ⟨#[]⟩, .string ⟨#[]⟩, .string ⟨#[]⟩, .bool false, .bool false] 51)).alloc (.cells #[.int .i64 0, .string ⟨#[]⟩, .string ⟨#[]⟩, .string ⟨#[]⟩, .int .u64 0] 40)
  have kL := ((Has.new (w.alloc (.cells #[.slice A n c, .int .i64 (l : Int), .string lb, .bool any, .bool half, .int .i64 (m : Int), .string bi, .string bt, .string bd, .bool so, .bool lo] 51)) 92 #[.string lt, .bool false]).alloc (.cells #[.slice none 0 0, .int .i64 0, .string ⟨#[]⟩, .bool false, .bool false, .int .i64 0, .string ⟨#[]⟩, .string ⟨#[]⟩, .string ⟨#[]⟩, .bool false, .bool false] 51)).alloc (.cells #[.int .i64 0, .string ⟨#[]⟩, .string ⟨#[]⟩, .string ⟨#[]⟩, .int .u64 0] 40)
  have kR := (Has.new ((w.alloc (.cells #[.slice A n c, .int .i64 (l : Int), .string lb, .bool any, .bool half, .int .i64 (m : Int), .string bi, .string bt, .string bd, .bool so, .bool lo] 51)).alloc (.cells #[.string lt, .bool false] 92)) 51 #[.slice none 0 0, .int .i64 0, .string ⟨#[]⟩, .bool false, .bool false, .int .i64 0, .string ⟨#[]⟩, .string ⟨#[]⟩, .string ⟨#[]⟩, .bool false, .bool false]).alloc (.cells #[.int .i64 0, .string ⟨#[]⟩, .string ⟨#[]⟩, .string ⟨#[]⟩, .int .u64 0] 40)
  have kS := Has.new (((w.alloc (.cells #[.slice A n c, .int .i64 (l : Int), .string lb, .bool any, .bool half, .int .i64 (m : Int), .string bi, .string bt, .string bd, .bool so, .bool lo] 51)).alloc (.cells #[.string lt, .bool false] 92)).alloc (.cells #[.slice none 0 0, .int .i64 0, .string ⟨#[]⟩, .bool false, .bool false, .int .i64 0, .string ⟨#[]⟩, .string ⟨#[]⟩, .string ⟨#[]⟩, .bool false, .bool false] 51)) 40 #[.int .i64 0, .string ⟨#[]⟩, .string ⟨#[]⟩, .string ⟨#[]⟩, .int .u64 0]
  simp only [World.size_alloc] at kL kR kS
  have hz : w.heap.size + 1 + 1 + 1 + 1 = ((((w.alloc (.cells #[.slice A n c, .int .i64 (l : Int), .string lb, .bool any, .bool half, .int .i64 (m : Int), .string bi, .string bt, .string bd, .bool so, .bool lo] 51)).alloc (.cells #[.string lt, .bool false] 92)).alloc (.cells #[.slice none 0 0, .int .i64 0, .string ⟨#[]⟩, .bool false, .bool false, .int .i64 0, .string ⟨#[]⟩, .string ⟨#[]⟩, .string ⟨#[]⟩, .bool false, .bool false] 51)).alloc (.cells #[.int .i64 0, .string ⟨#[]⟩, .string ⟨#[]⟩, .string ⟨#[]⟩, .int .u64 0] 40)).heap.size := by simp
  obtain ⟨w4, hw4⟩ : ∃ w4, ((((w.alloc (.cells #[.slice A n c, .int .i64 (l : Int), .string lb, .bool any, .bool half, .int .i64 (m : Int), .string bi, .string bt, .string bd, .bool so, .bool lo] 51)).alloc (.cells #[.string lt, .bool false] 92)).alloc (.cells #[.slice none 0 0, .int .i64 0, .string ⟨#[]⟩, .bool false, .bool false, .int .i64 0, .string ⟨#[]⟩, .string ⟨#[]⟩, .string ⟨#[]⟩, .bool false, .bool false] 51)).alloc (.cells #[.int .i64 0, .string ⟨#[]⟩, .string ⟨#[]⟩, .string ⟨#[]⟩, .int .u64 0] 40)) = w4 := ⟨_, rfl⟩
  rw [hw4] at hB kP kL kR kS hz
  have l0 := kL.cell 0
  have l1 := kL.cell 1
  have hz' := Lib.hid hz
  have hw4' := Lib.hid hw4
  have hB' := Lib.hid hB
  have hP' := Lib.hid kP
  have hR' := Lib.hid kR
  have hS' := Lib.hid kS
  clear hw4 hB kP kL kR kS hz
  go_enter Tryz.func33, Tryz.ntmps33
  go_upto_region 4 with (fail)
  rw [hw4'.out]
  clear hw4'
  go_upto_region 5 with (go_at_call 51; (with_reducible refine Calls.mono (hof _) ?_); rintro e u1 ⟨rfl, hb⟩; have hP' := Lib.hid (hP'.out.below hb hP'.out.lt); have hR' := Lib.hid (hR'.out.below hb hR'.out.lt); have hS' := Lib.hid (hS'.out.below hb hS'.out.lt); have hB' := Lib.hid (hB'.out.trans (hb.mono hB'.out.size)); have hz1 := hb.size; clear hb l0 l1)
  have hbA : Below u1.heap.size u1 (u1.alloc (.cells #[.int .i64 fk, .string fn, .string fv] 104)) := (Below.refl _ _).alloc (Nat.le_refl _) _
  have hF := Has.new u1 104 #[.int .i64 fk, .string fn, .string fv]
  have hlt := hS'.out.lt
  have hP' := Lib.hid (hP'.out.below hbA hP'.out.lt)
  have hR' := Lib.hid (hR'.out.below hbA hR'.out.lt)
  have hS' := Lib.hid (hS'.out.below hbA hS'.out.lt)
  have hB' := Lib.hid (hB'.out.trans (hbA.mono hB'.out.size))
  obtain ⟨F, hFz⟩ : ∃ F, u1.heap.size = F := ⟨_, rfl⟩
  obtain ⟨u2, hn⟩ : ∃ x, u1.alloc (.cells #[.int .i64 fk, .string fn, .string fv] 104) = x := ⟨_, rfl⟩
  rw [hn] at hF hP' hR' hS' hB' ⊢
  rw [hFz] at hF ⊢
  have hFw : w.heap.size + 1 + 1 + 1 < F := by omega
  have x0 := hF.cell 0
  have x1 := hF.cell 1
  have x2 := hF.cell 2
  have hF' := Lib.hid hF
  clear hn hF hbA hFz hlt hz1
  go_upto_region 6 with (go_at_call 52; (with_reducible refine Calls.mono (hco _) ?_); rintro e u3 ⟨rfl, hb⟩; have hP' := Lib.hid (hP'.out.below hb hP'.out.lt); have hR' := Lib.hid (hR'.out.below hb hR'.out.lt); have hS' := Lib.hid (hS'.out.below hb hS'.out.lt); have hB' := Lib.hid (hB'.out.trans (hb.mono hB'.out.size)); have hF' := Lib.hid (hF'.out.below hb hF'.out.lt); clear hb x0 x1 x2; have x0 := hF'.out.cell 0; have x1 := hF'.out.cell 1; have x2 := hF'.out.cell 2)
  have c0 := hP'.out.cell 0
  have c1 := hP'.out.cell 1
  have c2 := hP'.out.cell 2
  have c3 := hP'.out.cell 3
  have c4 := hP'.out.cell 4
  have c5 := hP'.out.cell 5
  have c6 := hP'.out.cell 6
  have c7 := hP'.out.cell 7
  have c8 := hP'.out.cell 8
  have c9 := hP'.out.cell 9
  have c10 := hP'.out.cell 10
  have g0 := hR'.out.cell 0
  have q0 := hR'.out.free 0
  have g1 := hR'.out.cell 1
  have q1 := hR'.out.free 1
  have g2 := hR'.out.cell 2
  have q2 := hR'.out.free 2
  have g3 := hR'.out.cell 3
  have q3 := hR'.out.free 3
  have g4 := hR'.out.cell 4
  have q4 := hR'.out.free 4
  have g5 := hR'.out.cell 5
  have q5 := hR'.out.free 5
  have g6 := hR'.out.cell 6
  have q6 := hR'.out.free 6
  have g7 := hR'.out.cell 7
  have q7 := hR'.out.free 7
  have g8 := hR'.out.cell 8
  have q8 := hR'.out.free 8
  have g9 := hR'.out.cell 9
  have q9 := hR'.out.free 9
  have g10 := hR'.out.cell 10
  have q10 := hR'.out.free 10
  have s0 := hS'.out.cell 0
  have j0 := hS'.out.free 0
  have s1 := hS'.out.cell 1
  have j1 := hS'.out.free 1
  have s2 := hS'.out.cell 2
  have j2 := hS'.out.free 2
  have s3 := hS'.out.cell 3
  have j3 := hS'.out.free 3
  have s4 := hS'.out.cell 4
  have j4 := hS'.out.free 4
  go_wp2
  refine bodyPost_ret (v := .tuple #[.agg #[.slice A n c, .int .i64 (l : Int), .string lb, .bool any, .bool half, .int .i64 (m : Int), .string bi, .string bt, .string bd, .bool so, .bool lo], .agg #[.int .i64 0, .string ⟨#[]⟩, .string ⟨#[]⟩, .string ⟨#[]⟩, .int .u64 0], .bool false]) (by simp [results, Tryz.results33, go_sem, g0, g1, g2, g3, g4, g5, g6, g7, g8, g9, g10, s0, s1, s2, s3, s4]) rfl ⟨rfl, ?_⟩
  have hr1 : w.heap.size ≤ w.heap.size + 1 + 1 := by omega
  have hr2 : w.heap.size ≤ w.heap.size + 1 + 1 + 1 := by omega
  exact ((((((((((((((((hB'.out.setCell (p := ⟨w.heap.size + 1 + 1, 0, none⟩) hr1 _).setCell (p := ⟨w.heap.size + 1 + 1, 1, none⟩) hr1 _).setCell (p := ⟨w.heap.size + 1 + 1, 2, none⟩) hr1 _).setCell (p := ⟨w.heap.size + 1 + 1, 3, none⟩) hr1 _).setCell (p := ⟨w.heap.size + 1 + 1, 4, none⟩) hr1 _).setCell (p := ⟨w.heap.size + 1 + 1, 5, none⟩) hr1 _).setCell (p := ⟨w.heap.size + 1 + 1, 6, none⟩) hr1 _).setCell (p := ⟨w.heap.size + 1 + 1, 7, none⟩) hr1 _).setCell (p := ⟨w.heap.size + 1 + 1, 8, none⟩) hr1 _).setCell (p := ⟨w.heap.size + 1 + 1, 9, none⟩) hr1 _).setCell (p := ⟨w.heap.size + 1 + 1, 10, none⟩) hr1 _).setCell (p := ⟨w.heap.size + 1 + 1 + 1, 0, none⟩) hr2 _).setCell (p := ⟨w.heap.size + 1 + 1 + 1, 1, none⟩) hr2 _).setCell (p := ⟨w.heap.size + 1 + 1 + 1, 2, none⟩) hr2 _).setCell (p := ⟨w.heap.size + 1 + 1 + 1, 3, none⟩) hr2 _).setCell (p := ⟨w.heap.size + 1 + 1 + 1, 4, none⟩) hr2 _)
set_option maxRecDepth 100000 in
set_option maxHeartbeats 2000000 in
theorem line_end (A : Option Addr) (n c l m : Nat) (lb bi bt bd lt : ByteArray) (any half so lo : Bool) (w : World) (hi : bi.size ≤ 1000000) (ht : bt.size ≤ 1000000) (hd : bd.size ≤ 1000000) (hm : m ≤ 65536) (fn fv : ByteArray) (hv : fv.size ≤ 1000000) (hof : ∀ W, Calls Tryz.prog 51 #[.string lt] W fun e W' => e = .returned (.agg #[.int .i64 1, .string fn, .string fv]) ∧ Below W.heap.size W W') (hco : ∀ W, Calls Tryz.prog 52 #[.agg #[.int .i64 1, .string fn, .string fv]] W fun e W' => e = .returned (.bool true) ∧ Below W.heap.size W W') (sk sr : Int) (y1 y2 y3 : ByteArray) (bn : Bool) (hen : ∀ W, Calls Tryz.prog 53 #[.agg #[.slice A n c, .int .i64 (l : Int), .string lb, .bool any, .bool half, .int .i64 (m : Int), .string bi, .string bt, .string bd, .bool so, .bool lo]] W fun e W' => e = .returned (.tuple #[.agg #[.slice A n c, .int .i64 (l : Int), .string lb, .bool any, .bool half, .int .i64 (m : Int), .string bi, .string ⟨#[]⟩, .string ⟨#[]⟩, .bool false, .bool false], .agg #[.int .i64 sk, .string y1, .string y2, .string y3, .int .u64 sr], .bool bn]) ∧ Below W.heap.size W W') :
    Calls Tryz.prog 33 #[.agg #[.slice A n c, .int .i64 (l : Int), .string lb, .bool any, .bool half, .int .i64 (m : Int), .string bi, .string bt, .string bd, .bool so, .bool lo], .agg #[.string lt, .bool false]] w fun e w' => e = .returned (.tuple #[.agg #[.slice A n c, .int .i64 (l : Int), .string lb, .bool any, .bool half, .int .i64 (m : Int), .string bi, .string ⟨#[]⟩, .string ⟨#[]⟩, .bool false, .bool false], .agg #[.int .i64 sk, .string y1, .string y2, .string y3, .int .u64 sr], .bool bn]) ∧ Below w.heap.size w w' := by
  have hB : Below w.heap.size w ((((w.alloc (.cells #[.slice A n c, .int .i64 (l : Int), .string lb, .bool any, .bool half, .int .i64 (m : Int), .string bi, .string bt, .string bd, .bool so, .bool lo] 51)).alloc (.cells #[.string lt, .bool false] 92)).alloc (.cells #[.slice none 0 0, .int .i64 0, .string ⟨#[]⟩, .bool false, .bool false, .int .i64 0, .string ⟨#[]⟩, .string ⟨#[]⟩, .string ⟨#[]⟩, .bool false, .bool false] 51)).alloc (.cells #[.int .i64 0, .string ⟨#[]⟩, .string ⟨#[]⟩, .string ⟨#[]⟩, .int .u64 0] 40)) := ((((Below.refl _ _).alloc (Nat.le_refl _) _).alloc (by simp) _).alloc (by simp; omega) _).alloc (by simp; omega) _
  have kP := (((Has.new w 51 #[.slice A n c, .int .i64 (l : Int), .string lb, .bool any, .bool half, .int .i64 (m : Int), .string bi, .string bt, .string bd, .bool so, .bool lo]).alloc (.cells #[.string lt, .bool false] 92)).alloc (.cells #[.slice none 0 0, .int .i64 0, .string ⟨#[]⟩, .bool false, .bool false, .int .i64 0, .string ⟨#[]⟩, .string ⟨#[]⟩, .string ⟨#[]⟩, .bool false, .bool false] 51)).alloc (.cells #[.int .i64 0, .string ⟨#[]⟩, .string ⟨#[]⟩, .string ⟨#[]⟩, .int .u64 0] 40)
  have kL := ((Has.new (w.alloc (.cells #[.slice A n c, .int .i64 (l : Int), .string lb, .bool any, .bool half, .int .i64 (m : Int), .string bi, .string bt, .string bd, .bool so, .bool lo] 51)) 92 #[.string lt, .bool false]).alloc (.cells #[.slice none 0 0, .int .i64 0, .string ⟨#[]⟩, .bool false, .bool false, .int .i64 0, .string ⟨#[]⟩, .string ⟨#[]⟩, .string ⟨#[]⟩, .bool false, .bool false] 51)).alloc (.cells #[.int .i64 0, .string ⟨#[]⟩, .string ⟨#[]⟩, .string ⟨#[]⟩, .int .u64 0] 40)
  have kR := (Has.new ((w.alloc (.cells #[.slice A n c, .int .i64 (l : Int), .string lb, .bool any, .bool half, .int .i64 (m : Int), .string bi, .string bt, .string bd, .bool so, .bool lo] 51)).alloc (.cells #[.string lt, .bool false] 92)) 51 #[.slice none 0 0, .int .i64 0, .string ⟨#[]⟩, .bool false, .bool false, .int .i64 0, .string ⟨#[]⟩, .string ⟨#[]⟩, .string ⟨#[]⟩, .bool false, .bool false]).alloc (.cells #[.int .i64 0, .string ⟨#[]⟩, .string ⟨#[]⟩, .string ⟨#[]⟩, .int .u64 0] 40)
  have kS := Has.new (((w.alloc (.cells #[.slice A n c, .int .i64 (l : Int), .string lb, .bool any, .bool half, .int .i64 (m : Int), .string bi, .string bt, .string bd, .bool so, .bool lo] 51)).alloc (.cells #[.string lt, .bool false] 92)).alloc (.cells #[.slice none 0 0, .int .i64 0, .string ⟨#[]⟩, .bool false, .bool false, .int .i64 0, .string ⟨#[]⟩, .string ⟨#[]⟩, .string ⟨#[]⟩, .bool false, .bool false] 51)) 40 #[.int .i64 0, .string ⟨#[]⟩, .string ⟨#[]⟩, .string ⟨#[]⟩, .int .u64 0]
  simp only [World.size_alloc] at kL kR kS
  have hz : w.heap.size + 1 + 1 + 1 + 1 = ((((w.alloc (.cells #[.slice A n c, .int .i64 (l : Int), .string lb, .bool any, .bool half, .int .i64 (m : Int), .string bi, .string bt, .string bd, .bool so, .bool lo] 51)).alloc (.cells #[.string lt, .bool false] 92)).alloc (.cells #[.slice none 0 0, .int .i64 0, .string ⟨#[]⟩, .bool false, .bool false, .int .i64 0, .string ⟨#[]⟩, .string ⟨#[]⟩, .string ⟨#[]⟩, .bool false, .bool false] 51)).alloc (.cells #[.int .i64 0, .string ⟨#[]⟩, .string ⟨#[]⟩, .string ⟨#[]⟩, .int .u64 0] 40)).heap.size := by simp
  obtain ⟨w4, hw4⟩ : ∃ w4, ((((w.alloc (.cells #[.slice A n c, .int .i64 (l : Int), .string lb, .bool any, .bool half, .int .i64 (m : Int), .string bi, .string bt, .string bd, .bool so, .bool lo] 51)).alloc (.cells #[.string lt, .bool false] 92)).alloc (.cells #[.slice none 0 0, .int .i64 0, .string ⟨#[]⟩, .bool false, .bool false, .int .i64 0, .string ⟨#[]⟩, .string ⟨#[]⟩, .string ⟨#[]⟩, .bool false, .bool false] 51)).alloc (.cells #[.int .i64 0, .string ⟨#[]⟩, .string ⟨#[]⟩, .string ⟨#[]⟩, .int .u64 0] 40)) = w4 := ⟨_, rfl⟩
  rw [hw4] at hB kP kL kR kS hz
  have l0 := kL.cell 0
  have l1 := kL.cell 1
  have hz' := Lib.hid hz
  have hw4' := Lib.hid hw4
  have hB' := Lib.hid hB
  have hP' := Lib.hid kP
  have hR' := Lib.hid kR
  have hS' := Lib.hid kS
  clear hw4 hB kP kL kR kS hz
  go_enter Tryz.func33, Tryz.ntmps33
  go_upto_region 4 with (fail)
  rw [hw4'.out]
  clear hw4'
  go_upto_region 5 with (go_at_call 51; (with_reducible refine Calls.mono (hof _) ?_); rintro e u1 ⟨rfl, hb⟩; have hP' := Lib.hid (hP'.out.below hb hP'.out.lt); have hR' := Lib.hid (hR'.out.below hb hR'.out.lt); have hS' := Lib.hid (hS'.out.below hb hS'.out.lt); have hB' := Lib.hid (hB'.out.trans (hb.mono hB'.out.size)); have hz1 := hb.size; clear hb l0 l1)
  have hbA : Below u1.heap.size u1 (u1.alloc (.cells #[.int .i64 1, .string fn, .string fv] 104)) := (Below.refl _ _).alloc (Nat.le_refl _) _
  have hF := Has.new u1 104 #[.int .i64 1, .string fn, .string fv]
  have hlt := hS'.out.lt
  have hP' := Lib.hid (hP'.out.below hbA hP'.out.lt)
  have hR' := Lib.hid (hR'.out.below hbA hR'.out.lt)
  have hS' := Lib.hid (hS'.out.below hbA hS'.out.lt)
  have hB' := Lib.hid (hB'.out.trans (hbA.mono hB'.out.size))
  obtain ⟨F, hFz⟩ : ∃ F, u1.heap.size = F := ⟨_, rfl⟩
  obtain ⟨u2, hn⟩ : ∃ x, u1.alloc (.cells #[.int .i64 1, .string fn, .string fv] 104) = x := ⟨_, rfl⟩
  rw [hn] at hF hP' hR' hS' hB' ⊢
  rw [hFz] at hF ⊢
  have hFw : w.heap.size + 1 + 1 + 1 < F := by omega
  have x0 := hF.cell 0
  have x1 := hF.cell 1
  have x2 := hF.cell 2
  have hF' := Lib.hid hF
  clear hn hF hbA hFz hlt hz1
  go_upto_region 9 with (go_at_call 52; (with_reducible refine Calls.mono (hco _) ?_); rintro e u3 ⟨rfl, hb⟩; have hP' := Lib.hid (hP'.out.below hb hP'.out.lt); have hR' := Lib.hid (hR'.out.below hb hR'.out.lt); have hS' := Lib.hid (hS'.out.below hb hS'.out.lt); have hB' := Lib.hid (hB'.out.trans (hb.mono hB'.out.size)); have hF' := Lib.hid (hF'.out.below hb hF'.out.lt); clear hb x0 x1 x2; have x0 := hF'.out.cell 0; have x1 := hF'.out.cell 1; have x2 := hF'.out.cell 2)
  have c0 := hP'.out.cell 0
  have c1 := hP'.out.cell 1
  have c2 := hP'.out.cell 2
  have c3 := hP'.out.cell 3
  have c4 := hP'.out.cell 4
  have c5 := hP'.out.cell 5
  have c6 := hP'.out.cell 6
  have c7 := hP'.out.cell 7
  have c8 := hP'.out.cell 8
  have c9 := hP'.out.cell 9
  have c10 := hP'.out.cell 10
  go_wp2_with (go_at_call 53; (with_reducible refine Calls.mono (hen _) ?_); rintro e u4 ⟨rfl, hb⟩; have hP' := Lib.hid (hP'.out.below hb hP'.out.lt); have hR' := Lib.hid (hR'.out.below hb hR'.out.lt); have hS' := Lib.hid (hS'.out.below hb hS'.out.lt); have hB' := Lib.hid (hB'.out.trans (hb.mono hB'.out.size)); clear hb c0 c1 c2 c3 c4 c5 c6 c7 c8 c9 c10 x0 x1 x2; have g0 := hR'.out.cell 0; have q0 := hR'.out.free 0; have g1 := hR'.out.cell 1; have q1 := hR'.out.free 1; have g2 := hR'.out.cell 2; have q2 := hR'.out.free 2; have g3 := hR'.out.cell 3; have q3 := hR'.out.free 3; have g4 := hR'.out.cell 4; have q4 := hR'.out.free 4; have g5 := hR'.out.cell 5; have q5 := hR'.out.free 5; have g6 := hR'.out.cell 6; have q6 := hR'.out.free 6; have g7 := hR'.out.cell 7; have q7 := hR'.out.free 7; have g8 := hR'.out.cell 8; have q8 := hR'.out.free 8; have g9 := hR'.out.cell 9; have q9 := hR'.out.free 9; have g10 := hR'.out.cell 10; have q10 := hR'.out.free 10; have s0 := hS'.out.cell 0; have j0 := hS'.out.free 0; have s1 := hS'.out.cell 1; have j1 := hS'.out.free 1; have s2 := hS'.out.cell 2; have j2 := hS'.out.free 2; have s3 := hS'.out.cell 3; have j3 := hS'.out.free 3; have s4 := hS'.out.cell 4; have j4 := hS'.out.free 4)
  skip
  refine bodyPost_ret (v := .tuple #[.agg #[.slice A n c, .int .i64 (l : Int), .string lb, .bool any, .bool half, .int .i64 (m : Int), .string bi, .string ⟨#[]⟩, .string ⟨#[]⟩, .bool false, .bool false], .agg #[.int .i64 sk, .string y1, .string y2, .string y3, .int .u64 sr], .bool bn]) (by simp [results, Tryz.results33, go_sem, g0, g1, g2, g3, g4, g5, g6, g7, g8, g9, g10, s0, s1, s2, s3, s4]) rfl ⟨rfl, ?_⟩
  have hr1 : w.heap.size ≤ w.heap.size + 1 + 1 := by omega
  have hr2 : w.heap.size ≤ w.heap.size + 1 + 1 + 1 := by omega
  exact ((((((((((((((((hB'.out.setCell (p := ⟨w.heap.size + 1 + 1, 0, none⟩) hr1 _).setCell (p := ⟨w.heap.size + 1 + 1, 1, none⟩) hr1 _).setCell (p := ⟨w.heap.size + 1 + 1, 2, none⟩) hr1 _).setCell (p := ⟨w.heap.size + 1 + 1, 3, none⟩) hr1 _).setCell (p := ⟨w.heap.size + 1 + 1, 4, none⟩) hr1 _).setCell (p := ⟨w.heap.size + 1 + 1, 5, none⟩) hr1 _).setCell (p := ⟨w.heap.size + 1 + 1, 6, none⟩) hr1 _).setCell (p := ⟨w.heap.size + 1 + 1, 7, none⟩) hr1 _).setCell (p := ⟨w.heap.size + 1 + 1, 8, none⟩) hr1 _).setCell (p := ⟨w.heap.size + 1 + 1, 9, none⟩) hr1 _).setCell (p := ⟨w.heap.size + 1 + 1, 10, none⟩) hr1 _).setCell (p := ⟨w.heap.size + 1 + 1 + 1, 0, none⟩) hr2 _).setCell (p := ⟨w.heap.size + 1 + 1 + 1, 1, none⟩) hr2 _).setCell (p := ⟨w.heap.size + 1 + 1 + 1, 2, none⟩) hr2 _).setCell (p := ⟨w.heap.size + 1 + 1 + 1, 3, none⟩) hr2 _).setCell (p := ⟨w.heap.size + 1 + 1 + 1, 4, none⟩) hr2 _)
set_option maxRecDepth 100000 in
set_option maxHeartbeats 2000000 in
theorem line_data (A : Option Addr) (n c l m : Nat) (lb bi bt bd lt : ByteArray) (any half so lo : Bool) (w : World) (hi : bi.size ≤ 1000000) (ht : bt.size ≤ 1000000) (hd : bd.size ≤ 1000000) (hm : m ≤ 65536) (fn fv : ByteArray) (hv : fv.size ≤ 1000000) (hof : ∀ W, Calls Tryz.prog 51 #[.string lt] W fun e W' => e = .returned (.agg #[.int .i64 3, .string fn, .string fv]) ∧ Below W.heap.size W W') (hco : ∀ W, Calls Tryz.prog 52 #[.agg #[.int .i64 3, .string fn, .string fv]] W fun e W' => e = .returned (.bool true) ∧ Below W.heap.size W W') (hle : bd.size ≤ m + 1) :
    Calls Tryz.prog 33 #[.agg #[.slice A n c, .int .i64 (l : Int), .string lb, .bool any, .bool half, .int .i64 (m : Int), .string bi, .string bt, .string bd, .bool so, .bool false], .agg #[.string lt, .bool false]] w fun e w' => e = .returned (.tuple #[.agg #[.slice A n c, .int .i64 (l : Int), .string lb, .bool any, .bool half, .int .i64 (m : Int), .string bi, .string bt, .string (bd ++ fv ++ ⟨#[10]⟩), .bool true, .bool false], .agg #[.int .i64 0, .string ⟨#[]⟩, .string ⟨#[]⟩, .string ⟨#[]⟩, .int .u64 0], .bool false]) ∧ Below w.heap.size w w' := by
  have hB : Below w.heap.size w ((((w.alloc (.cells #[.slice A n c, .int .i64 (l : Int), .string lb, .bool any, .bool half, .int .i64 (m : Int), .string bi, .string bt, .string bd, .bool so, .bool false] 51)).alloc (.cells #[.string lt, .bool false] 92)).alloc (.cells #[.slice none 0 0, .int .i64 0, .string ⟨#[]⟩, .bool false, .bool false, .int .i64 0, .string ⟨#[]⟩, .string ⟨#[]⟩, .string ⟨#[]⟩, .bool false, .bool false] 51)).alloc (.cells #[.int .i64 0, .string ⟨#[]⟩, .string ⟨#[]⟩, .string ⟨#[]⟩, .int .u64 0] 40)) := ((((Below.refl _ _).alloc (Nat.le_refl _) _).alloc (by simp) _).alloc (by simp; omega) _).alloc (by simp; omega) _
  have kP := (((Has.new w 51 #[.slice A n c, .int .i64 (l : Int), .string lb, .bool any, .bool half, .int .i64 (m : Int), .string bi, .string bt, .string bd, .bool so, .bool false]).alloc (.cells #[.string lt, .bool false] 92)).alloc (.cells #[.slice none 0 0, .int .i64 0, .string ⟨#[]⟩, .bool false, .bool false, .int .i64 0, .string ⟨#[]⟩, .string ⟨#[]⟩, .string ⟨#[]⟩, .bool false, .bool false] 51)).alloc (.cells #[.int .i64 0, .string ⟨#[]⟩, .string ⟨#[]⟩, .string ⟨#[]⟩, .int .u64 0] 40)
  have kL := ((Has.new (w.alloc (.cells #[.slice A n c, .int .i64 (l : Int), .string lb, .bool any, .bool half, .int .i64 (m : Int), .string bi, .string bt, .string bd, .bool so, .bool false] 51)) 92 #[.string lt, .bool false]).alloc (.cells #[.slice none 0 0, .int .i64 0, .string ⟨#[]⟩, .bool false, .bool false, .int .i64 0, .string ⟨#[]⟩, .string ⟨#[]⟩, .string ⟨#[]⟩, .bool false, .bool false] 51)).alloc (.cells #[.int .i64 0, .string ⟨#[]⟩, .string ⟨#[]⟩, .string ⟨#[]⟩, .int .u64 0] 40)
  have kR := (Has.new ((w.alloc (.cells #[.slice A n c, .int .i64 (l : Int), .string lb, .bool any, .bool half, .int .i64 (m : Int), .string bi, .string bt, .string bd, .bool so, .bool false] 51)).alloc (.cells #[.string lt, .bool false] 92)) 51 #[.slice none 0 0, .int .i64 0, .string ⟨#[]⟩, .bool false, .bool false, .int .i64 0, .string ⟨#[]⟩, .string ⟨#[]⟩, .string ⟨#[]⟩, .bool false, .bool false]).alloc (.cells #[.int .i64 0, .string ⟨#[]⟩, .string ⟨#[]⟩, .string ⟨#[]⟩, .int .u64 0] 40)
  have kS := Has.new (((w.alloc (.cells #[.slice A n c, .int .i64 (l : Int), .string lb, .bool any, .bool half, .int .i64 (m : Int), .string bi, .string bt, .string bd, .bool so, .bool false] 51)).alloc (.cells #[.string lt, .bool false] 92)).alloc (.cells #[.slice none 0 0, .int .i64 0, .string ⟨#[]⟩, .bool false, .bool false, .int .i64 0, .string ⟨#[]⟩, .string ⟨#[]⟩, .string ⟨#[]⟩, .bool false, .bool false] 51)) 40 #[.int .i64 0, .string ⟨#[]⟩, .string ⟨#[]⟩, .string ⟨#[]⟩, .int .u64 0]
  simp only [World.size_alloc] at kL kR kS
  have hz : w.heap.size + 1 + 1 + 1 + 1 = ((((w.alloc (.cells #[.slice A n c, .int .i64 (l : Int), .string lb, .bool any, .bool half, .int .i64 (m : Int), .string bi, .string bt, .string bd, .bool so, .bool false] 51)).alloc (.cells #[.string lt, .bool false] 92)).alloc (.cells #[.slice none 0 0, .int .i64 0, .string ⟨#[]⟩, .bool false, .bool false, .int .i64 0, .string ⟨#[]⟩, .string ⟨#[]⟩, .string ⟨#[]⟩, .bool false, .bool false] 51)).alloc (.cells #[.int .i64 0, .string ⟨#[]⟩, .string ⟨#[]⟩, .string ⟨#[]⟩, .int .u64 0] 40)).heap.size := by simp
  obtain ⟨w4, hw4⟩ : ∃ w4, ((((w.alloc (.cells #[.slice A n c, .int .i64 (l : Int), .string lb, .bool any, .bool half, .int .i64 (m : Int), .string bi, .string bt, .string bd, .bool so, .bool false] 51)).alloc (.cells #[.string lt, .bool false] 92)).alloc (.cells #[.slice none 0 0, .int .i64 0, .string ⟨#[]⟩, .bool false, .bool false, .int .i64 0, .string ⟨#[]⟩, .string ⟨#[]⟩, .string ⟨#[]⟩, .bool false, .bool false] 51)).alloc (.cells #[.int .i64 0, .string ⟨#[]⟩, .string ⟨#[]⟩, .string ⟨#[]⟩, .int .u64 0] 40)) = w4 := ⟨_, rfl⟩
  rw [hw4] at hB kP kL kR kS hz
  have l0 := kL.cell 0
  have l1 := kL.cell 1
  have hz' := Lib.hid hz
  have hw4' := Lib.hid hw4
  have hB' := Lib.hid hB
  have hP' := Lib.hid kP
  have hR' := Lib.hid kR
  have hS' := Lib.hid kS
  clear hw4 hB kP kL kR kS hz
  go_enter Tryz.func33, Tryz.ntmps33
  go_upto_region 4 with (fail)
  rw [hw4'.out]
  clear hw4'
  go_upto_region 5 with (go_at_call 51; (with_reducible refine Calls.mono (hof _) ?_); rintro e u1 ⟨rfl, hb⟩; have hP' := Lib.hid (hP'.out.below hb hP'.out.lt); have hR' := Lib.hid (hR'.out.below hb hR'.out.lt); have hS' := Lib.hid (hS'.out.below hb hS'.out.lt); have hB' := Lib.hid (hB'.out.trans (hb.mono hB'.out.size)); have hz1 := hb.size; clear hb l0 l1)
  have hbA : Below u1.heap.size u1 (u1.alloc (.cells #[.int .i64 3, .string fn, .string fv] 104)) := (Below.refl _ _).alloc (Nat.le_refl _) _
  have hF := Has.new u1 104 #[.int .i64 3, .string fn, .string fv]
  have hlt := hS'.out.lt
  have hP' := Lib.hid (hP'.out.below hbA hP'.out.lt)
  have hR' := Lib.hid (hR'.out.below hbA hR'.out.lt)
  have hS' := Lib.hid (hS'.out.below hbA hS'.out.lt)
  have hB' := Lib.hid (hB'.out.trans (hbA.mono hB'.out.size))
  obtain ⟨F, hFz⟩ : ∃ F, u1.heap.size = F := ⟨_, rfl⟩
  obtain ⟨u2, hn⟩ : ∃ x, u1.alloc (.cells #[.int .i64 3, .string fn, .string fv] 104) = x := ⟨_, rfl⟩
  rw [hn] at hF hP' hR' hS' hB' ⊢
  rw [hFz] at hF ⊢
  have hFw : w.heap.size + 1 + 1 + 1 < F := by omega
  have x0 := hF.cell 0
  have x1 := hF.cell 1
  have x2 := hF.cell 2
  have hF' := Lib.hid hF
  clear hn hF hbA hFz hlt hz1
  go_upto_region 11 with (go_at_call 52; (with_reducible refine Calls.mono (hco _) ?_); rintro e u3 ⟨rfl, hb⟩; have hP' := Lib.hid (hP'.out.below hb hP'.out.lt); have hR' := Lib.hid (hR'.out.below hb hR'.out.lt); have hS' := Lib.hid (hS'.out.below hb hS'.out.lt); have hB' := Lib.hid (hB'.out.trans (hb.mono hB'.out.size)); have hF' := Lib.hid (hF'.out.below hb hF'.out.lt); clear hb x0 x1 x2; have x0 := hF'.out.cell 0; have x1 := hF'.out.cell 1; have x2 := hF'.out.cell 2)
  have hF0 := hF'.out.other (j := w.heap.size) (i := 9) (by omega) (.bool true)
  have v9 := hP'.out.cell 9
  have f9 := hP'.out.free 9
  have kP := hP'.out.put 9 (.bool true)
  have kR := hR'.out.other (j := w.heap.size) (i := 9) (by omega) (.bool true)
  have kS := hS'.out.other (j := w.heap.size) (i := 9) (by omega) (.bool true)
  have kB := hB'.out.setCell (p := ⟨w.heap.size, 9, none⟩) (Nat.le_refl _) (.bool true)
  obtain ⟨u1, hn⟩ : ∃ x, u3.setCell ⟨w.heap.size, 9, none⟩ (.bool true) = x := ⟨_, rfl⟩
  rw [hn] at kP kR kS kB
  have hn' := Lib.hid hn
  clear hP' hR' hS' hB' hn
  have hP' := Lib.hid kP
  have hR' := Lib.hid kR
  have hS' := Lib.hid kS
  have hB' := Lib.hid kB
  clear kP kR kS kB
  rw [hn'.out] at hF0
  clear x0 x1 x2
  go_upto_region 12 with (fail)
  rw [hn'.out]
  have x2 := hF0.cell 2
  clear hn' v9 f9
  have c8 := hP'.out.cell 8
  have c10 := hP'.out.cell 10
  have c5 := hP'.out.cell 5
  have hg : ¬ (m : Int) + 1 < (bd.size : Int) := by omega
  go_upto_region 14 with (fail)
  clear c8 c10 c5
  have c8 := hP'.out.cell 8
  have v8 := hP'.out.cell 8
  have f8 := hP'.out.free 8
  have kP := hP'.out.put 8 (.string (bd ++ fv ++ ⟨#[10]⟩))
  have kR := hR'.out.other (j := w.heap.size) (i := 8) (by omega) (.string (bd ++ fv ++ ⟨#[10]⟩))
  have kS := hS'.out.other (j := w.heap.size) (i := 8) (by omega) (.string (bd ++ fv ++ ⟨#[10]⟩))
  have kB := hB'.out.setCell (p := ⟨w.heap.size, 8, none⟩) (Nat.le_refl _) (.string (bd ++ fv ++ ⟨#[10]⟩))
  obtain ⟨u2, hn⟩ : ∃ x, u1.setCell ⟨w.heap.size, 8, none⟩ (.string (bd ++ fv ++ ⟨#[10]⟩)) = x := ⟨_, rfl⟩
  rw [hn] at kP kR kS kB
  have hn' := Lib.hid hn
  clear hP' hR' hS' hB' hn
  have hP' := Lib.hid kP
  have hR' := Lib.hid kR
  have hS' := Lib.hid kS
  have hB' := Lib.hid kB
  clear kP kR kS kB
  go_upto_region 22 with (fail)
  rw [hn'.out]
  clear hn' v8 f8
  clear c8
  have c0 := hP'.out.cell 0
  have c1 := hP'.out.cell 1
  have c2 := hP'.out.cell 2
  have c3 := hP'.out.cell 3
  have c4 := hP'.out.cell 4
  have c5 := hP'.out.cell 5
  have c6 := hP'.out.cell 6
  have c7 := hP'.out.cell 7
  have c8 := hP'.out.cell 8
  have c9 := hP'.out.cell 9
  have c10 := hP'.out.cell 10
  have g0 := hR'.out.cell 0
  have q0 := hR'.out.free 0
  have g1 := hR'.out.cell 1
  have q1 := hR'.out.free 1
  have g2 := hR'.out.cell 2
  have q2 := hR'.out.free 2
  have g3 := hR'.out.cell 3
  have q3 := hR'.out.free 3
  have g4 := hR'.out.cell 4
  have q4 := hR'.out.free 4
  have g5 := hR'.out.cell 5
  have q5 := hR'.out.free 5
  have g6 := hR'.out.cell 6
  have q6 := hR'.out.free 6
  have g7 := hR'.out.cell 7
  have q7 := hR'.out.free 7
  have g8 := hR'.out.cell 8
  have q8 := hR'.out.free 8
  have g9 := hR'.out.cell 9
  have q9 := hR'.out.free 9
  have g10 := hR'.out.cell 10
  have q10 := hR'.out.free 10
  have s0 := hS'.out.cell 0
  have j0 := hS'.out.free 0
  have s1 := hS'.out.cell 1
  have j1 := hS'.out.free 1
  have s2 := hS'.out.cell 2
  have j2 := hS'.out.free 2
  have s3 := hS'.out.cell 3
  have j3 := hS'.out.free 3
  have s4 := hS'.out.cell 4
  have j4 := hS'.out.free 4
  go_wp2
  refine bodyPost_ret (v := .tuple #[.agg #[.slice A n c, .int .i64 (l : Int), .string lb, .bool any, .bool half, .int .i64 (m : Int), .string bi, .string bt, .string (bd ++ fv ++ ⟨#[10]⟩), .bool true, .bool false], .agg #[.int .i64 0, .string ⟨#[]⟩, .string ⟨#[]⟩, .string ⟨#[]⟩, .int .u64 0], .bool false]) (by simp [results, Tryz.results33, go_sem, g0, g1, g2, g3, g4, g5, g6, g7, g8, g9, g10, s0, s1, s2, s3, s4]) rfl ⟨rfl, ?_⟩
  have hr1 : w.heap.size ≤ w.heap.size + 1 + 1 := by omega
  have hr2 : w.heap.size ≤ w.heap.size + 1 + 1 + 1 := by omega
  exact ((((((((((((((((hB'.out.setCell (p := ⟨w.heap.size + 1 + 1, 0, none⟩) hr1 _).setCell (p := ⟨w.heap.size + 1 + 1, 1, none⟩) hr1 _).setCell (p := ⟨w.heap.size + 1 + 1, 2, none⟩) hr1 _).setCell (p := ⟨w.heap.size + 1 + 1, 3, none⟩) hr1 _).setCell (p := ⟨w.heap.size + 1 + 1, 4, none⟩) hr1 _).setCell (p := ⟨w.heap.size + 1 + 1, 5, none⟩) hr1 _).setCell (p := ⟨w.heap.size + 1 + 1, 6, none⟩) hr1 _).setCell (p := ⟨w.heap.size + 1 + 1, 7, none⟩) hr1 _).setCell (p := ⟨w.heap.size + 1 + 1, 8, none⟩) hr1 _).setCell (p := ⟨w.heap.size + 1 + 1, 9, none⟩) hr1 _).setCell (p := ⟨w.heap.size + 1 + 1, 10, none⟩) hr1 _).setCell (p := ⟨w.heap.size + 1 + 1 + 1, 0, none⟩) hr2 _).setCell (p := ⟨w.heap.size + 1 + 1 + 1, 1, none⟩) hr2 _).setCell (p := ⟨w.heap.size + 1 + 1 + 1, 2, none⟩) hr2 _).setCell (p := ⟨w.heap.size + 1 + 1 + 1, 3, none⟩) hr2 _).setCell (p := ⟨w.heap.size + 1 + 1 + 1, 4, none⟩) hr2 _)
set_option maxRecDepth 100000 in
set_option maxHeartbeats 2000000 in
theorem line_more (A : Option Addr) (n c l m : Nat) (lb bi bt bd lt : ByteArray) (any half so lo : Bool) (w : World) (hi : bi.size ≤ 1000000) (ht : bt.size ≤ 1000000) (hd : bd.size ≤ 1000000) (hm : m ≤ 65536) (fn fv : ByteArray) (hv : fv.size ≤ 1000000) (hof : ∀ W, Calls Tryz.prog 51 #[.string lt] W fun e W' => e = .returned (.agg #[.int .i64 3, .string fn, .string fv]) ∧ Below W.heap.size W W') (hco : ∀ W, Calls Tryz.prog 52 #[.agg #[.int .i64 3, .string fn, .string fv]] W fun e W' => e = .returned (.bool true) ∧ Below W.heap.size W W') (hle : m + 1 < bd.size) :
    Calls Tryz.prog 33 #[.agg #[.slice A n c, .int .i64 (l : Int), .string lb, .bool any, .bool half, .int .i64 (m : Int), .string bi, .string bt, .string bd, .bool so, .bool false], .agg #[.string lt, .bool false]] w fun e w' => e = .returned (.tuple #[.agg #[.slice A n c, .int .i64 (l : Int), .string lb, .bool any, .bool half, .int .i64 (m : Int), .string bi, .string bt, .string bd, .bool true, .bool true], .agg #[.int .i64 0, .string ⟨#[]⟩, .string ⟨#[]⟩, .string ⟨#[]⟩, .int .u64 0], .bool false]) ∧ Below w.heap.size w w' := by
  have hB : Below w.heap.size w ((((w.alloc (.cells #[.slice A n c, .int .i64 (l : Int), .string lb, .bool any, .bool half, .int .i64 (m : Int), .string bi, .string bt, .string bd, .bool so, .bool false] 51)).alloc (.cells #[.string lt, .bool false] 92)).alloc (.cells #[.slice none 0 0, .int .i64 0, .string ⟨#[]⟩, .bool false, .bool false, .int .i64 0, .string ⟨#[]⟩, .string ⟨#[]⟩, .string ⟨#[]⟩, .bool false, .bool false] 51)).alloc (.cells #[.int .i64 0, .string ⟨#[]⟩, .string ⟨#[]⟩, .string ⟨#[]⟩, .int .u64 0] 40)) := ((((Below.refl _ _).alloc (Nat.le_refl _) _).alloc (by simp) _).alloc (by simp; omega) _).alloc (by simp; omega) _
  have kP := (((Has.new w 51 #[.slice A n c, .int .i64 (l : Int), .string lb, .bool any, .bool half, .int .i64 (m : Int), .string bi, .string bt, .string bd, .bool so, .bool false]).alloc (.cells #[.string lt, .bool false] 92)).alloc (.cells #[.slice none 0 0, .int .i64 0, .string ⟨#[]⟩, .bool false, .bool false, .int .i64 0, .string ⟨#[]⟩, .string ⟨#[]⟩, .string ⟨#[]⟩, .bool false, .bool false] 51)).alloc (.cells #[.int .i64 0, .string ⟨#[]⟩, .string ⟨#[]⟩, .string ⟨#[]⟩, .int .u64 0] 40)
  have kL := ((Has.new (w.alloc (.cells #[.slice A n c, .int .i64 (l : Int), .string lb, .bool any, .bool half, .int .i64 (m : Int), .string bi, .string bt, .string bd, .bool so, .bool false] 51)) 92 #[.string lt, .bool false]).alloc (.cells #[.slice none 0 0, .int .i64 0, .string ⟨#[]⟩, .bool false, .bool false, .int .i64 0, .string ⟨#[]⟩, .string ⟨#[]⟩, .string ⟨#[]⟩, .bool false, .bool false] 51)).alloc (.cells #[.int .i64 0, .string ⟨#[]⟩, .string ⟨#[]⟩, .string ⟨#[]⟩, .int .u64 0] 40)
  have kR := (Has.new ((w.alloc (.cells #[.slice A n c, .int .i64 (l : Int), .string lb, .bool any, .bool half, .int .i64 (m : Int), .string bi, .string bt, .string bd, .bool so, .bool false] 51)).alloc (.cells #[.string lt, .bool false] 92)) 51 #[.slice none 0 0, .int .i64 0, .string ⟨#[]⟩, .bool false, .bool false, .int .i64 0, .string ⟨#[]⟩, .string ⟨#[]⟩, .string ⟨#[]⟩, .bool false, .bool false]).alloc (.cells #[.int .i64 0, .string ⟨#[]⟩, .string ⟨#[]⟩, .string ⟨#[]⟩, .int .u64 0] 40)
  have kS := Has.new (((w.alloc (.cells #[.slice A n c, .int .i64 (l : Int), .string lb, .bool any, .bool half, .int .i64 (m : Int), .string bi, .string bt, .string bd, .bool so, .bool false] 51)).alloc (.cells #[.string lt, .bool false] 92)).alloc (.cells #[.slice none 0 0, .int .i64 0, .string ⟨#[]⟩, .bool false, .bool false, .int .i64 0, .string ⟨#[]⟩, .string ⟨#[]⟩, .string ⟨#[]⟩, .bool false, .bool false] 51)) 40 #[.int .i64 0, .string ⟨#[]⟩, .string ⟨#[]⟩, .string ⟨#[]⟩, .int .u64 0]
  simp only [World.size_alloc] at kL kR kS
  have hz : w.heap.size + 1 + 1 + 1 + 1 = ((((w.alloc (.cells #[.slice A n c, .int .i64 (l : Int), .string lb, .bool any, .bool half, .int .i64 (m : Int), .string bi, .string bt, .string bd, .bool so, .bool false] 51)).alloc (.cells #[.string lt, .bool false] 92)).alloc (.cells #[.slice none 0 0, .int .i64 0, .string ⟨#[]⟩, .bool false, .bool false, .int .i64 0, .string ⟨#[]⟩, .string ⟨#[]⟩, .string ⟨#[]⟩, .bool false, .bool false] 51)).alloc (.cells #[.int .i64 0, .string ⟨#[]⟩, .string ⟨#[]⟩, .string ⟨#[]⟩, .int .u64 0] 40)).heap.size := by simp
  obtain ⟨w4, hw4⟩ : ∃ w4, ((((w.alloc (.cells #[.slice A n c, .int .i64 (l : Int), .string lb, .bool any, .bool half, .int .i64 (m : Int), .string bi, .string bt, .string bd, .bool so, .bool false] 51)).alloc (.cells #[.string lt, .bool false] 92)).alloc (.cells #[.slice none 0 0, .int .i64 0, .string ⟨#[]⟩, .bool false, .bool false, .int .i64 0, .string ⟨#[]⟩, .string ⟨#[]⟩, .string ⟨#[]⟩, .bool false, .bool false] 51)).alloc (.cells #[.int .i64 0, .string ⟨#[]⟩, .string ⟨#[]⟩, .string ⟨#[]⟩, .int .u64 0] 40)) = w4 := ⟨_, rfl⟩
  rw [hw4] at hB kP kL kR kS hz
  have l0 := kL.cell 0
  have l1 := kL.cell 1
  have hz' := Lib.hid hz
  have hw4' := Lib.hid hw4
  have hB' := Lib.hid hB
  have hP' := Lib.hid kP
  have hR' := Lib.hid kR
  have hS' := Lib.hid kS
  clear hw4 hB kP kL kR kS hz
  go_enter Tryz.func33, Tryz.ntmps33
  go_upto_region 4 with (fail)
  rw [hw4'.out]
  clear hw4'
  go_upto_region 5 with (go_at_call 51; (with_reducible refine Calls.mono (hof _) ?_); rintro e u1 ⟨rfl, hb⟩; have hP' := Lib.hid (hP'.out.below hb hP'.out.lt); have hR' := Lib.hid (hR'.out.below hb hR'.out.lt); have hS' := Lib.hid (hS'.out.below hb hS'.out.lt); have hB' := Lib.hid (hB'.out.trans (hb.mono hB'.out.size)); have hz1 := hb.size; clear hb l0 l1)
  have hbA : Below u1.heap.size u1 (u1.alloc (.cells #[.int .i64 3, .string fn, .string fv] 104)) := (Below.refl _ _).alloc (Nat.le_refl _) _
  have hF := Has.new u1 104 #[.int .i64 3, .string fn, .string fv]
  have hlt := hS'.out.lt
  have hP' := Lib.hid (hP'.out.below hbA hP'.out.lt)
  have hR' := Lib.hid (hR'.out.below hbA hR'.out.lt)
  have hS' := Lib.hid (hS'.out.below hbA hS'.out.lt)
  have hB' := Lib.hid (hB'.out.trans (hbA.mono hB'.out.size))
  obtain ⟨F, hFz⟩ : ∃ F, u1.heap.size = F := ⟨_, rfl⟩
  obtain ⟨u2, hn⟩ : ∃ x, u1.alloc (.cells #[.int .i64 3, .string fn, .string fv] 104) = x := ⟨_, rfl⟩
  rw [hn] at hF hP' hR' hS' hB' ⊢
  rw [hFz] at hF ⊢
  have hFw : w.heap.size + 1 + 1 + 1 < F := by omega
  have x0 := hF.cell 0
  have x1 := hF.cell 1
  have x2 := hF.cell 2
  have hF' := Lib.hid hF
  clear hn hF hbA hFz hlt hz1
  go_upto_region 11 with (go_at_call 52; (with_reducible refine Calls.mono (hco _) ?_); rintro e u3 ⟨rfl, hb⟩; have hP' := Lib.hid (hP'.out.below hb hP'.out.lt); have hR' := Lib.hid (hR'.out.below hb hR'.out.lt); have hS' := Lib.hid (hS'.out.below hb hS'.out.lt); have hB' := Lib.hid (hB'.out.trans (hb.mono hB'.out.size)); have hF' := Lib.hid (hF'.out.below hb hF'.out.lt); clear hb x0 x1 x2; have x0 := hF'.out.cell 0; have x1 := hF'.out.cell 1; have x2 := hF'.out.cell 2)
  have v9 := hP'.out.cell 9
  have f9 := hP'.out.free 9
  have kP := hP'.out.put 9 (.bool true)
  have kR := hR'.out.other (j := w.heap.size) (i := 9) (by omega) (.bool true)
  have kS := hS'.out.other (j := w.heap.size) (i := 9) (by omega) (.bool true)
  have kB := hB'.out.setCell (p := ⟨w.heap.size, 9, none⟩) (Nat.le_refl _) (.bool true)
  obtain ⟨u1, hn⟩ : ∃ x, u3.setCell ⟨w.heap.size, 9, none⟩ (.bool true) = x := ⟨_, rfl⟩
  rw [hn] at kP kR kS kB
  have hn' := Lib.hid hn
  clear hP' hR' hS' hB' hn
  have hP' := Lib.hid kP
  have hR' := Lib.hid kR
  have hS' := Lib.hid kS
  have hB' := Lib.hid kB
  clear kP kR kS kB
  go_upto_region 12 with (fail)
  rw [hn'.out]
  clear hn' v9 f9
  have c8 := hP'.out.cell 8
  have c10 := hP'.out.cell 10
  have c5 := hP'.out.cell 5
  have hg : (m : Int) + 1 < (bd.size : Int) := by omega
  go_upto_region 13 with (fail)
  clear c8 c10 c5
  have v10 := hP'.out.cell 10
  have f10 := hP'.out.free 10
  have kP := hP'.out.put 10 (.bool true)
  have kR := hR'.out.other (j := w.heap.size) (i := 10) (by omega) (.bool true)
  have kS := hS'.out.other (j := w.heap.size) (i := 10) (by omega) (.bool true)
  have kB := hB'.out.setCell (p := ⟨w.heap.size, 10, none⟩) (Nat.le_refl _) (.bool true)
  obtain ⟨u2, hn⟩ : ∃ x, u1.setCell ⟨w.heap.size, 10, none⟩ (.bool true) = x := ⟨_, rfl⟩
  rw [hn] at kP kR kS kB
  have hn' := Lib.hid hn
  clear hP' hR' hS' hB' hn
  have hP' := Lib.hid kP
  have hR' := Lib.hid kR
  have hS' := Lib.hid kS
  have hB' := Lib.hid kB
  clear kP kR kS kB
  go_upto_region 22 with (fail)
  rw [hn'.out]
  clear hn' v10 f10
  have c0 := hP'.out.cell 0
  have c1 := hP'.out.cell 1
  have c2 := hP'.out.cell 2
  have c3 := hP'.out.cell 3
  have c4 := hP'.out.cell 4
  have c5 := hP'.out.cell 5
  have c6 := hP'.out.cell 6
  have c7 := hP'.out.cell 7
  have c8 := hP'.out.cell 8
  have c9 := hP'.out.cell 9
  have c10 := hP'.out.cell 10
  have g0 := hR'.out.cell 0
  have q0 := hR'.out.free 0
  have g1 := hR'.out.cell 1
  have q1 := hR'.out.free 1
  have g2 := hR'.out.cell 2
  have q2 := hR'.out.free 2
  have g3 := hR'.out.cell 3
  have q3 := hR'.out.free 3
  have g4 := hR'.out.cell 4
  have q4 := hR'.out.free 4
  have g5 := hR'.out.cell 5
  have q5 := hR'.out.free 5
  have g6 := hR'.out.cell 6
  have q6 := hR'.out.free 6
  have g7 := hR'.out.cell 7
  have q7 := hR'.out.free 7
  have g8 := hR'.out.cell 8
  have q8 := hR'.out.free 8
  have g9 := hR'.out.cell 9
  have q9 := hR'.out.free 9
  have g10 := hR'.out.cell 10
  have q10 := hR'.out.free 10
  have s0 := hS'.out.cell 0
  have j0 := hS'.out.free 0
  have s1 := hS'.out.cell 1
  have j1 := hS'.out.free 1
  have s2 := hS'.out.cell 2
  have j2 := hS'.out.free 2
  have s3 := hS'.out.cell 3
  have j3 := hS'.out.free 3
  have s4 := hS'.out.cell 4
  have j4 := hS'.out.free 4
  go_wp2
  refine bodyPost_ret (v := .tuple #[.agg #[.slice A n c, .int .i64 (l : Int), .string lb, .bool any, .bool half, .int .i64 (m : Int), .string bi, .string bt, .string bd, .bool true, .bool true], .agg #[.int .i64 0, .string ⟨#[]⟩, .string ⟨#[]⟩, .string ⟨#[]⟩, .int .u64 0], .bool false]) (by simp [results, Tryz.results33, go_sem, g0, g1, g2, g3, g4, g5, g6, g7, g8, g9, g10, s0, s1, s2, s3, s4]) rfl ⟨rfl, ?_⟩
  have hr1 : w.heap.size ≤ w.heap.size + 1 + 1 := by omega
  have hr2 : w.heap.size ≤ w.heap.size + 1 + 1 + 1 := by omega
  exact ((((((((((((((((hB'.out.setCell (p := ⟨w.heap.size + 1 + 1, 0, none⟩) hr1 _).setCell (p := ⟨w.heap.size + 1 + 1, 1, none⟩) hr1 _).setCell (p := ⟨w.heap.size + 1 + 1, 2, none⟩) hr1 _).setCell (p := ⟨w.heap.size + 1 + 1, 3, none⟩) hr1 _).setCell (p := ⟨w.heap.size + 1 + 1, 4, none⟩) hr1 _).setCell (p := ⟨w.heap.size + 1 + 1, 5, none⟩) hr1 _).setCell (p := ⟨w.heap.size + 1 + 1, 6, none⟩) hr1 _).setCell (p := ⟨w.heap.size + 1 + 1, 7, none⟩) hr1 _).setCell (p := ⟨w.heap.size + 1 + 1, 8, none⟩) hr1 _).setCell (p := ⟨w.heap.size + 1 + 1, 9, none⟩) hr1 _).setCell (p := ⟨w.heap.size + 1 + 1, 10, none⟩) hr1 _).setCell (p := ⟨w.heap.size + 1 + 1 + 1, 0, none⟩) hr2 _).setCell (p := ⟨w.heap.size + 1 + 1 + 1, 1, none⟩) hr2 _).setCell (p := ⟨w.heap.size + 1 + 1 + 1, 2, none⟩) hr2 _).setCell (p := ⟨w.heap.size + 1 + 1 + 1, 3, none⟩) hr2 _).setCell (p := ⟨w.heap.size + 1 + 1 + 1, 4, none⟩) hr2 _)
set_option maxRecDepth 100000 in
set_option maxHeartbeats 2000000 in
theorem line_still (A : Option Addr) (n c l m : Nat) (lb bi bt bd lt : ByteArray) (any half so lo : Bool) (w : World) (hi : bi.size ≤ 1000000) (ht : bt.size ≤ 1000000) (hd : bd.size ≤ 1000000) (hm : m ≤ 65536) (fn fv : ByteArray) (hv : fv.size ≤ 1000000) (hof : ∀ W, Calls Tryz.prog 51 #[.string lt] W fun e W' => e = .returned (.agg #[.int .i64 3, .string fn, .string fv]) ∧ Below W.heap.size W W') (hco : ∀ W, Calls Tryz.prog 52 #[.agg #[.int .i64 3, .string fn, .string fv]] W fun e W' => e = .returned (.bool true) ∧ Below W.heap.size W W') :
    Calls Tryz.prog 33 #[.agg #[.slice A n c, .int .i64 (l : Int), .string lb, .bool any, .bool half, .int .i64 (m : Int), .string bi, .string bt, .string bd, .bool so, .bool true], .agg #[.string lt, .bool false]] w fun e w' => e = .returned (.tuple #[.agg #[.slice A n c, .int .i64 (l : Int), .string lb, .bool any, .bool half, .int .i64 (m : Int), .string bi, .string bt, .string bd, .bool true, .bool true], .agg #[.int .i64 0, .string ⟨#[]⟩, .string ⟨#[]⟩, .string ⟨#[]⟩, .int .u64 0], .bool false]) ∧ Below w.heap.size w w' := by
  have hB : Below w.heap.size w ((((w.alloc (.cells #[.slice A n c, .int .i64 (l : Int), .string lb, .bool any, .bool half, .int .i64 (m : Int), .string bi, .string bt, .string bd, .bool so, .bool true] 51)).alloc (.cells #[.string lt, .bool false] 92)).alloc (.cells #[.slice none 0 0, .int .i64 0, .string ⟨#[]⟩, .bool false, .bool false, .int .i64 0, .string ⟨#[]⟩, .string ⟨#[]⟩, .string ⟨#[]⟩, .bool false, .bool false] 51)).alloc (.cells #[.int .i64 0, .string ⟨#[]⟩, .string ⟨#[]⟩, .string ⟨#[]⟩, .int .u64 0] 40)) := ((((Below.refl _ _).alloc (Nat.le_refl _) _).alloc (by simp) _).alloc (by simp; omega) _).alloc (by simp; omega) _
  have kP := (((Has.new w 51 #[.slice A n c, .int .i64 (l : Int), .string lb, .bool any, .bool half, .int .i64 (m : Int), .string bi, .string bt, .string bd, .bool so, .bool true]).alloc (.cells #[.string lt, .bool false] 92)).alloc (.cells #[.slice none 0 0, .int .i64 0, .string ⟨#[]⟩, .bool false, .bool false, .int .i64 0, .string ⟨#[]⟩, .string ⟨#[]⟩, .string ⟨#[]⟩, .bool false, .bool false] 51)).alloc (.cells #[.int .i64 0, .string ⟨#[]⟩, .string ⟨#[]⟩, .string ⟨#[]⟩, .int .u64 0] 40)
  have kL := ((Has.new (w.alloc (.cells #[.slice A n c, .int .i64 (l : Int), .string lb, .bool any, .bool half, .int .i64 (m : Int), .string bi, .string bt, .string bd, .bool so, .bool true] 51)) 92 #[.string lt, .bool false]).alloc (.cells #[.slice none 0 0, .int .i64 0, .string ⟨#[]⟩, .bool false, .bool false, .int .i64 0, .string ⟨#[]⟩, .string ⟨#[]⟩, .string ⟨#[]⟩, .bool false, .bool false] 51)).alloc (.cells #[.int .i64 0, .string ⟨#[]⟩, .string ⟨#[]⟩, .string ⟨#[]⟩, .int .u64 0] 40)
  have kR := (Has.new ((w.alloc (.cells #[.slice A n c, .int .i64 (l : Int), .string lb, .bool any, .bool half, .int .i64 (m : Int), .string bi, .string bt, .string bd, .bool so, .bool true] 51)).alloc (.cells #[.string lt, .bool false] 92)) 51 #[.slice none 0 0, .int .i64 0, .string ⟨#[]⟩, .bool false, .bool false, .int .i64 0, .string ⟨#[]⟩, .string ⟨#[]⟩, .string ⟨#[]⟩, .bool false, .bool false]).alloc (.cells #[.int .i64 0, .string ⟨#[]⟩, .string ⟨#[]⟩, .string ⟨#[]⟩, .int .u64 0] 40)
  have kS := Has.new (((w.alloc (.cells #[.slice A n c, .int .i64 (l : Int), .string lb, .bool any, .bool half, .int .i64 (m : Int), .string bi, .string bt, .string bd, .bool so, .bool true] 51)).alloc (.cells #[.string lt, .bool false] 92)).alloc (.cells #[.slice none 0 0, .int .i64 0, .string ⟨#[]⟩, .bool false, .bool false, .int .i64 0, .string ⟨#[]⟩, .string ⟨#[]⟩, .string ⟨#[]⟩, .bool false, .bool false] 51)) 40 #[.int .i64 0, .string ⟨#[]⟩, .string ⟨#[]⟩, .string ⟨#[]⟩, .int .u64 0]
  simp only [World.size_alloc] at kL kR kS
  have hz : w.heap.size + 1 + 1 + 1 + 1 = ((((w.alloc (.cells #[.slice A n c, .int .i64 (l : Int), .string lb, .bool any, .bool half, .int .i64 (m : Int), .string bi, .string bt, .string bd, .bool so, .bool true] 51)).alloc (.cells #[.string lt, .bool false] 92)).alloc (.cells #[.slice none 0 0, .int .i64 0, .string ⟨#[]⟩, .bool false, .bool false, .int .i64 0, .string ⟨#[]⟩, .string ⟨#[]⟩, .string ⟨#[]⟩, .bool false, .bool false] 51)).alloc (.cells #[.int .i64 0, .string ⟨#[]⟩, .string ⟨#[]⟩, .string ⟨#[]⟩, .int .u64 0] 40)).heap.size := by simp
  obtain ⟨w4, hw4⟩ : ∃ w4, ((((w.alloc (.cells #[.slice A n c, .int .i64 (l : Int), .string lb, .bool any, .bool half, .int .i64 (m : Int), .string bi, .string bt, .string bd, .bool so, .bool true] 51)).alloc (.cells #[.string lt, .bool false] 92)).alloc (.cells #[.slice none 0 0, .int .i64 0, .string ⟨#[]⟩, .bool false, .bool false, .int .i64 0, .string ⟨#[]⟩, .string ⟨#[]⟩, .string ⟨#[]⟩, .bool false, .bool false] 51)).alloc (.cells #[.int .i64 0, .string ⟨#[]⟩, .string ⟨#[]⟩, .string ⟨#[]⟩, .int .u64 0] 40)) = w4 := ⟨_, rfl⟩
  rw [hw4] at hB kP kL kR kS hz
  have l0 := kL.cell 0
  have l1 := kL.cell 1
  have hz' := Lib.hid hz
  have hw4' := Lib.hid hw4
  have hB' := Lib.hid hB
  have hP' := Lib.hid kP
  have hR' := Lib.hid kR
  have hS' := Lib.hid kS
  clear hw4 hB kP kL kR kS hz
  go_enter Tryz.func33, Tryz.ntmps33
  go_upto_region 4 with (fail)
  rw [hw4'.out]
  clear hw4'
  go_upto_region 5 with (go_at_call 51; (with_reducible refine Calls.mono (hof _) ?_); rintro e u1 ⟨rfl, hb⟩; have hP' := Lib.hid (hP'.out.below hb hP'.out.lt); have hR' := Lib.hid (hR'.out.below hb hR'.out.lt); have hS' := Lib.hid (hS'.out.below hb hS'.out.lt); have hB' := Lib.hid (hB'.out.trans (hb.mono hB'.out.size)); have hz1 := hb.size; clear hb l0 l1)
  have hbA : Below u1.heap.size u1 (u1.alloc (.cells #[.int .i64 3, .string fn, .string fv] 104)) := (Below.refl _ _).alloc (Nat.le_refl _) _
  have hF := Has.new u1 104 #[.int .i64 3, .string fn, .string fv]
  have hlt := hS'.out.lt
  have hP' := Lib.hid (hP'.out.below hbA hP'.out.lt)
  have hR' := Lib.hid (hR'.out.below hbA hR'.out.lt)
  have hS' := Lib.hid (hS'.out.below hbA hS'.out.lt)
  have hB' := Lib.hid (hB'.out.trans (hbA.mono hB'.out.size))
  obtain ⟨F, hFz⟩ : ∃ F, u1.heap.size = F := ⟨_, rfl⟩
  obtain ⟨u2, hn⟩ : ∃ x, u1.alloc (.cells #[.int .i64 3, .string fn, .string fv] 104) = x := ⟨_, rfl⟩
  rw [hn] at hF hP' hR' hS' hB' ⊢
  rw [hFz] at hF ⊢
  have hFw : w.heap.size + 1 + 1 + 1 < F := by omega
  have x0 := hF.cell 0
  have x1 := hF.cell 1
  have x2 := hF.cell 2
  have hF' := Lib.hid hF
  clear hn hF hbA hFz hlt hz1
  go_upto_region 11 with (go_at_call 52; (with_reducible refine Calls.mono (hco _) ?_); rintro e u3 ⟨rfl, hb⟩; have hP' := Lib.hid (hP'.out.below hb hP'.out.lt); have hR' := Lib.hid (hR'.out.below hb hR'.out.lt); have hS' := Lib.hid (hS'.out.below hb hS'.out.lt); have hB' := Lib.hid (hB'.out.trans (hb.mono hB'.out.size)); have hF' := Lib.hid (hF'.out.below hb hF'.out.lt); clear hb x0 x1 x2; have x0 := hF'.out.cell 0; have x1 := hF'.out.cell 1; have x2 := hF'.out.cell 2)
  have v9 := hP'.out.cell 9
  have f9 := hP'.out.free 9
  have kP := hP'.out.put 9 (.bool true)
  have kR := hR'.out.other (j := w.heap.size) (i := 9) (by omega) (.bool true)
  have kS := hS'.out.other (j := w.heap.size) (i := 9) (by omega) (.bool true)
  have kB := hB'.out.setCell (p := ⟨w.heap.size, 9, none⟩) (Nat.le_refl _) (.bool true)
  obtain ⟨u1, hn⟩ : ∃ x, u3.setCell ⟨w.heap.size, 9, none⟩ (.bool true) = x := ⟨_, rfl⟩
  rw [hn] at kP kR kS kB
  have hn' := Lib.hid hn
  clear hP' hR' hS' hB' hn
  have hP' := Lib.hid kP
  have hR' := Lib.hid kR
  have hS' := Lib.hid kS
  have hB' := Lib.hid kB
  clear kP kR kS kB
  go_upto_region 12 with (fail)
  rw [hn'.out]
  clear hn' v9 f9
  have c8 := hP'.out.cell 8
  have c10 := hP'.out.cell 10
  have c5 := hP'.out.cell 5
  go_upto_region 13 with (fail)
  clear c8 c10 c5
  have v10 := hP'.out.cell 10
  have f10 := hP'.out.free 10
  have kP := hP'.out.put 10 (.bool true)
  have kR := hR'.out.other (j := w.heap.size) (i := 10) (by omega) (.bool true)
  have kS := hS'.out.other (j := w.heap.size) (i := 10) (by omega) (.bool true)
  have kB := hB'.out.setCell (p := ⟨w.heap.size, 10, none⟩) (Nat.le_refl _) (.bool true)
  obtain ⟨u2, hn⟩ : ∃ x, u1.setCell ⟨w.heap.size, 10, none⟩ (.bool true) = x := ⟨_, rfl⟩
  rw [hn] at kP kR kS kB
  have hn' := Lib.hid hn
  clear hP' hR' hS' hB' hn
  have hP' := Lib.hid kP
  have hR' := Lib.hid kR
  have hS' := Lib.hid kS
  have hB' := Lib.hid kB
  clear kP kR kS kB
  go_upto_region 22 with (fail)
  rw [hn'.out]
  clear hn' v10 f10
  have c0 := hP'.out.cell 0
  have c1 := hP'.out.cell 1
  have c2 := hP'.out.cell 2
  have c3 := hP'.out.cell 3
  have c4 := hP'.out.cell 4
  have c5 := hP'.out.cell 5
  have c6 := hP'.out.cell 6
  have c7 := hP'.out.cell 7
  have c8 := hP'.out.cell 8
  have c9 := hP'.out.cell 9
  have c10 := hP'.out.cell 10
  have g0 := hR'.out.cell 0
  have q0 := hR'.out.free 0
  have g1 := hR'.out.cell 1
  have q1 := hR'.out.free 1
  have g2 := hR'.out.cell 2
  have q2 := hR'.out.free 2
  have g3 := hR'.out.cell 3
  have q3 := hR'.out.free 3
  have g4 := hR'.out.cell 4
  have q4 := hR'.out.free 4
  have g5 := hR'.out.cell 5
  have q5 := hR'.out.free 5
  have g6 := hR'.out.cell 6
  have q6 := hR'.out.free 6
  have g7 := hR'.out.cell 7
  have q7 := hR'.out.free 7
  have g8 := hR'.out.cell 8
  have q8 := hR'.out.free 8
  have g9 := hR'.out.cell 9
  have q9 := hR'.out.free 9
  have g10 := hR'.out.cell 10
  have q10 := hR'.out.free 10
  have s0 := hS'.out.cell 0
  have j0 := hS'.out.free 0
  have s1 := hS'.out.cell 1
  have j1 := hS'.out.free 1
  have s2 := hS'.out.cell 2
  have j2 := hS'.out.free 2
  have s3 := hS'.out.cell 3
  have j3 := hS'.out.free 3
  have s4 := hS'.out.cell 4
  have j4 := hS'.out.free 4
  go_wp2
  refine bodyPost_ret (v := .tuple #[.agg #[.slice A n c, .int .i64 (l : Int), .string lb, .bool any, .bool half, .int .i64 (m : Int), .string bi, .string bt, .string bd, .bool true, .bool true], .agg #[.int .i64 0, .string ⟨#[]⟩, .string ⟨#[]⟩, .string ⟨#[]⟩, .int .u64 0], .bool false]) (by simp [results, Tryz.results33, go_sem, g0, g1, g2, g3, g4, g5, g6, g7, g8, g9, g10, s0, s1, s2, s3, s4]) rfl ⟨rfl, ?_⟩
  have hr1 : w.heap.size ≤ w.heap.size + 1 + 1 := by omega
  have hr2 : w.heap.size ≤ w.heap.size + 1 + 1 + 1 := by omega
  exact ((((((((((((((((hB'.out.setCell (p := ⟨w.heap.size + 1 + 1, 0, none⟩) hr1 _).setCell (p := ⟨w.heap.size + 1 + 1, 1, none⟩) hr1 _).setCell (p := ⟨w.heap.size + 1 + 1, 2, none⟩) hr1 _).setCell (p := ⟨w.heap.size + 1 + 1, 3, none⟩) hr1 _).setCell (p := ⟨w.heap.size + 1 + 1, 4, none⟩) hr1 _).setCell (p := ⟨w.heap.size + 1 + 1, 5, none⟩) hr1 _).setCell (p := ⟨w.heap.size + 1 + 1, 6, none⟩) hr1 _).setCell (p := ⟨w.heap.size + 1 + 1, 7, none⟩) hr1 _).setCell (p := ⟨w.heap.size + 1 + 1, 8, none⟩) hr1 _).setCell (p := ⟨w.heap.size + 1 + 1, 9, none⟩) hr1 _).setCell (p := ⟨w.heap.size + 1 + 1, 10, none⟩) hr1 _).setCell (p := ⟨w.heap.size + 1 + 1 + 1, 0, none⟩) hr2 _).setCell (p := ⟨w.heap.size + 1 + 1 + 1, 1, none⟩) hr2 _).setCell (p := ⟨w.heap.size + 1 + 1 + 1, 2, none⟩) hr2 _).setCell (p := ⟨w.heap.size + 1 + 1 + 1, 3, none⟩) hr2 _).setCell (p := ⟨w.heap.size + 1 + 1 + 1, 4, none⟩) hr2 _)
set_option maxRecDepth 100000 in
set_option maxHeartbeats 2000000 in
theorem line_type (A : Option Addr) (n c l m : Nat) (lb bi bt bd lt : ByteArray) (any half so lo : Bool) (w : World) (hi : bi.size ≤ 1000000) (ht : bt.size ≤ 1000000) (hd : bd.size ≤ 1000000) (hm : m ≤ 65536) (fn fv : ByteArray) (hv : fv.size ≤ 1000000) (hof : ∀ W, Calls Tryz.prog 51 #[.string lt] W fun e W' => e = .returned (.agg #[.int .i64 4, .string fn, .string fv]) ∧ Below W.heap.size W W') (hco : ∀ W, Calls Tryz.prog 52 #[.agg #[.int .i64 4, .string fn, .string fv]] W fun e W' => e = .returned (.bool true) ∧ Below W.heap.size W W') :
    Calls Tryz.prog 33 #[.agg #[.slice A n c, .int .i64 (l : Int), .string lb, .bool any, .bool half, .int .i64 (m : Int), .string bi, .string bt, .string bd, .bool so, .bool lo], .agg #[.string lt, .bool false]] w fun e w' => e = .returned (.tuple #[.agg #[.slice A n c, .int .i64 (l : Int), .string lb, .bool any, .bool half, .int .i64 (m : Int), .string bi, .string fv, .string bd, .bool so, .bool lo], .agg #[.int .i64 0, .string ⟨#[]⟩, .string ⟨#[]⟩, .string ⟨#[]⟩, .int .u64 0], .bool false]) ∧ Below w.heap.size w w' := by
  have hB : Below w.heap.size w ((((w.alloc (.cells #[.slice A n c, .int .i64 (l : Int), .string lb, .bool any, .bool half, .int .i64 (m : Int), .string bi, .string bt, .string bd, .bool so, .bool lo] 51)).alloc (.cells #[.string lt, .bool false] 92)).alloc (.cells #[.slice none 0 0, .int .i64 0, .string ⟨#[]⟩, .bool false, .bool false, .int .i64 0, .string ⟨#[]⟩, .string ⟨#[]⟩, .string ⟨#[]⟩, .bool false, .bool false] 51)).alloc (.cells #[.int .i64 0, .string ⟨#[]⟩, .string ⟨#[]⟩, .string ⟨#[]⟩, .int .u64 0] 40)) := ((((Below.refl _ _).alloc (Nat.le_refl _) _).alloc (by simp) _).alloc (by simp; omega) _).alloc (by simp; omega) _
  have kP := (((Has.new w 51 #[.slice A n c, .int .i64 (l : Int), .string lb, .bool any, .bool half, .int .i64 (m : Int), .string bi, .string bt, .string bd, .bool so, .bool lo]).alloc (.cells #[.string lt, .bool false] 92)).alloc (.cells #[.slice none 0 0, .int .i64 0, .string ⟨#[]⟩, .bool false, .bool false, .int .i64 0, .string ⟨#[]⟩, .string ⟨#[]⟩, .string ⟨#[]⟩, .bool false, .bool false] 51)).alloc (.cells #[.int .i64 0, .string ⟨#[]⟩, .string ⟨#[]⟩, .string ⟨#[]⟩, .int .u64 0] 40)
  have kL := ((Has.new (w.alloc (.cells #[.slice A n c, .int .i64 (l : Int), .string lb, .bool any, .bool half, .int .i64 (m : Int), .string bi, .string bt, .string bd, .bool so, .bool lo] 51)) 92 #[.string lt, .bool false]).alloc (.cells #[.slice none 0 0, .int .i64 0, .string ⟨#[]⟩, .bool false, .bool false, .int .i64 0, .string ⟨#[]⟩, .string ⟨#[]⟩, .string ⟨#[]⟩, .bool false, .bool false] 51)).alloc (.cells #[.int .i64 0, .string ⟨#[]⟩, .string ⟨#[]⟩, .string ⟨#[]⟩, .int .u64 0] 40)
  have kR := (Has.new ((w.alloc (.cells #[.slice A n c, .int .i64 (l : Int), .string lb, .bool any, .bool half, .int .i64 (m : Int), .string bi, .string bt, .string bd, .bool so, .bool lo] 51)).alloc (.cells #[.string lt, .bool false] 92)) 51 #[.slice none 0 0, .int .i64 0, .string ⟨#[]⟩, .bool false, .bool false, .int .i64 0, .string ⟨#[]⟩, .string ⟨#[]⟩, .string ⟨#[]⟩, .bool false, .bool false]).alloc (.cells #[.int .i64 0, .string ⟨#[]⟩, .string ⟨#[]⟩, .string ⟨#[]⟩, .int .u64 0] 40)
  have kS := Has.new (((w.alloc (.cells #[.slice A n c, .int .i64 (l : Int), .string lb, .bool any, .bool half, .int .i64 (m : Int), .string bi, .string bt, .string bd, .bool so, .bool lo] 51)).alloc (.cells #[.string lt, .bool false] 92)).alloc (.cells #[.slice none 0 0, .int .i64 0, .string ⟨#[]⟩, .bool false, .bool false, .int .i64 0, .string ⟨#[]⟩, .string ⟨#[]⟩, .string ⟨#[]⟩, .bool false, .bool false] 51)) 40 #[.int .i64 0, .string ⟨#[]⟩, .string ⟨#[]⟩, .string ⟨#[]⟩, .int .u64 0]
  simp only [World.size_alloc] at kL kR kS
  have hz : w.heap.size + 1 + 1 + 1 + 1 = ((((w.alloc (.cells #[.slice A n c, .int .i64 (l : Int), .string lb, .bool any, .bool half, .int .i64 (m : Int), .string bi, .string bt, .string bd, .bool so, .bool lo] 51)).alloc (.cells #[.string lt, .bool false] 92)).alloc (.cells #[.slice none 0 0, .int .i64 0, .string ⟨#[]⟩, .bool false, .bool false, .int .i64 0, .string ⟨#[]⟩, .string ⟨#[]⟩, .string ⟨#[]⟩, .bool false, .bool false] 51)).alloc (.cells #[.int .i64 0, .string ⟨#[]⟩, .string ⟨#[]⟩, .string ⟨#[]⟩, .int .u64 0] 40)).heap.size := by simp
  obtain ⟨w4, hw4⟩ : ∃ w4, ((((w.alloc (.cells #[.slice A n c, .int .i64 (l : Int), .string lb, .bool any, .bool half, .int .i64 (m : Int), .string bi, .string bt, .string bd, .bool so, .bool lo] 51)).alloc (.cells #[.string lt, .bool false] 92)).alloc (.cells #[.slice none 0 0, .int .i64 0, .string ⟨#[]⟩, .bool false, .bool false, .int .i64 0, .string ⟨#[]⟩, .string ⟨#[]⟩, .string ⟨#[]⟩, .bool false, .bool false] 51)).alloc (.cells #[.int .i64 0, .string ⟨#[]⟩, .string ⟨#[]⟩, .string ⟨#[]⟩, .int .u64 0] 40)) = w4 := ⟨_, rfl⟩
  rw [hw4] at hB kP kL kR kS hz
  have l0 := kL.cell 0
  have l1 := kL.cell 1
  have hz' := Lib.hid hz
  have hw4' := Lib.hid hw4
  have hB' := Lib.hid hB
  have hP' := Lib.hid kP
  have hR' := Lib.hid kR
  have hS' := Lib.hid kS
  clear hw4 hB kP kL kR kS hz
  go_enter Tryz.func33, Tryz.ntmps33
  go_upto_region 4 with (fail)
  rw [hw4'.out]
  clear hw4'
  go_upto_region 5 with (go_at_call 51; (with_reducible refine Calls.mono (hof _) ?_); rintro e u1 ⟨rfl, hb⟩; have hP' := Lib.hid (hP'.out.below hb hP'.out.lt); have hR' := Lib.hid (hR'.out.below hb hR'.out.lt); have hS' := Lib.hid (hS'.out.below hb hS'.out.lt); have hB' := Lib.hid (hB'.out.trans (hb.mono hB'.out.size)); have hz1 := hb.size; clear hb l0 l1)
  have hbA : Below u1.heap.size u1 (u1.alloc (.cells #[.int .i64 4, .string fn, .string fv] 104)) := (Below.refl _ _).alloc (Nat.le_refl _) _
  have hF := Has.new u1 104 #[.int .i64 4, .string fn, .string fv]
  have hlt := hS'.out.lt
  have hP' := Lib.hid (hP'.out.below hbA hP'.out.lt)
  have hR' := Lib.hid (hR'.out.below hbA hR'.out.lt)
  have hS' := Lib.hid (hS'.out.below hbA hS'.out.lt)
  have hB' := Lib.hid (hB'.out.trans (hbA.mono hB'.out.size))
  obtain ⟨F, hFz⟩ : ∃ F, u1.heap.size = F := ⟨_, rfl⟩
  obtain ⟨u2, hn⟩ : ∃ x, u1.alloc (.cells #[.int .i64 4, .string fn, .string fv] 104) = x := ⟨_, rfl⟩
  rw [hn] at hF hP' hR' hS' hB' ⊢
  rw [hFz] at hF ⊢
  have hFw : w.heap.size + 1 + 1 + 1 < F := by omega
  have x0 := hF.cell 0
  have x1 := hF.cell 1
  have x2 := hF.cell 2
  have hF' := Lib.hid hF
  clear hn hF hbA hFz hlt hz1
  go_upto_region 16 with (go_at_call 52; (with_reducible refine Calls.mono (hco _) ?_); rintro e u3 ⟨rfl, hb⟩; have hP' := Lib.hid (hP'.out.below hb hP'.out.lt); have hR' := Lib.hid (hR'.out.below hb hR'.out.lt); have hS' := Lib.hid (hS'.out.below hb hS'.out.lt); have hB' := Lib.hid (hB'.out.trans (hb.mono hB'.out.size)); have hF' := Lib.hid (hF'.out.below hb hF'.out.lt); clear hb x0 x1 x2; have x0 := hF'.out.cell 0; have x1 := hF'.out.cell 1; have x2 := hF'.out.cell 2)
  have v7 := hP'.out.cell 7
  have f7 := hP'.out.free 7
  have kP := hP'.out.put 7 (.string fv)
  have kR := hR'.out.other (j := w.heap.size) (i := 7) (by omega) (.string fv)
  have kS := hS'.out.other (j := w.heap.size) (i := 7) (by omega) (.string fv)
  have kB := hB'.out.setCell (p := ⟨w.heap.size, 7, none⟩) (Nat.le_refl _) (.string fv)
  obtain ⟨u1, hn⟩ : ∃ x, u3.setCell ⟨w.heap.size, 7, none⟩ (.string fv) = x := ⟨_, rfl⟩
  rw [hn] at kP kR kS kB
  have hn' := Lib.hid hn
  clear hP' hR' hS' hB' hn
  have hP' := Lib.hid kP
  have hR' := Lib.hid kR
  have hS' := Lib.hid kS
  have hB' := Lib.hid kB
  clear kP kR kS kB
  go_upto_region 22 with (fail)
  rw [hn'.out]
  clear hn' v7 f7
  have c0 := hP'.out.cell 0
  have c1 := hP'.out.cell 1
  have c2 := hP'.out.cell 2
  have c3 := hP'.out.cell 3
  have c4 := hP'.out.cell 4
  have c5 := hP'.out.cell 5
  have c6 := hP'.out.cell 6
  have c7 := hP'.out.cell 7
  have c8 := hP'.out.cell 8
  have c9 := hP'.out.cell 9
  have c10 := hP'.out.cell 10
  have g0 := hR'.out.cell 0
  have q0 := hR'.out.free 0
  have g1 := hR'.out.cell 1
  have q1 := hR'.out.free 1
  have g2 := hR'.out.cell 2
  have q2 := hR'.out.free 2
  have g3 := hR'.out.cell 3
  have q3 := hR'.out.free 3
  have g4 := hR'.out.cell 4
  have q4 := hR'.out.free 4
  have g5 := hR'.out.cell 5
  have q5 := hR'.out.free 5
  have g6 := hR'.out.cell 6
  have q6 := hR'.out.free 6
  have g7 := hR'.out.cell 7
  have q7 := hR'.out.free 7
  have g8 := hR'.out.cell 8
  have q8 := hR'.out.free 8
  have g9 := hR'.out.cell 9
  have q9 := hR'.out.free 9
  have g10 := hR'.out.cell 10
  have q10 := hR'.out.free 10
  have s0 := hS'.out.cell 0
  have j0 := hS'.out.free 0
  have s1 := hS'.out.cell 1
  have j1 := hS'.out.free 1
  have s2 := hS'.out.cell 2
  have j2 := hS'.out.free 2
  have s3 := hS'.out.cell 3
  have j3 := hS'.out.free 3
  have s4 := hS'.out.cell 4
  have j4 := hS'.out.free 4
  go_wp2
  refine bodyPost_ret (v := .tuple #[.agg #[.slice A n c, .int .i64 (l : Int), .string lb, .bool any, .bool half, .int .i64 (m : Int), .string bi, .string fv, .string bd, .bool so, .bool lo], .agg #[.int .i64 0, .string ⟨#[]⟩, .string ⟨#[]⟩, .string ⟨#[]⟩, .int .u64 0], .bool false]) (by simp [results, Tryz.results33, go_sem, g0, g1, g2, g3, g4, g5, g6, g7, g8, g9, g10, s0, s1, s2, s3, s4]) rfl ⟨rfl, ?_⟩
  have hr1 : w.heap.size ≤ w.heap.size + 1 + 1 := by omega
  have hr2 : w.heap.size ≤ w.heap.size + 1 + 1 + 1 := by omega
  exact ((((((((((((((((hB'.out.setCell (p := ⟨w.heap.size + 1 + 1, 0, none⟩) hr1 _).setCell (p := ⟨w.heap.size + 1 + 1, 1, none⟩) hr1 _).setCell (p := ⟨w.heap.size + 1 + 1, 2, none⟩) hr1 _).setCell (p := ⟨w.heap.size + 1 + 1, 3, none⟩) hr1 _).setCell (p := ⟨w.heap.size + 1 + 1, 4, none⟩) hr1 _).setCell (p := ⟨w.heap.size + 1 + 1, 5, none⟩) hr1 _).setCell (p := ⟨w.heap.size + 1 + 1, 6, none⟩) hr1 _).setCell (p := ⟨w.heap.size + 1 + 1, 7, none⟩) hr1 _).setCell (p := ⟨w.heap.size + 1 + 1, 8, none⟩) hr1 _).setCell (p := ⟨w.heap.size + 1 + 1, 9, none⟩) hr1 _).setCell (p := ⟨w.heap.size + 1 + 1, 10, none⟩) hr1 _).setCell (p := ⟨w.heap.size + 1 + 1 + 1, 0, none⟩) hr2 _).setCell (p := ⟨w.heap.size + 1 + 1 + 1, 1, none⟩) hr2 _).setCell (p := ⟨w.heap.size + 1 + 1 + 1, 2, none⟩) hr2 _).setCell (p := ⟨w.heap.size + 1 + 1 + 1, 3, none⟩) hr2 _).setCell (p := ⟨w.heap.size + 1 + 1 + 1, 4, none⟩) hr2 _)
set_option maxRecDepth 100000 in
set_option maxHeartbeats 2000000 in
theorem line_id (A : Option Addr) (n c l m : Nat) (lb bi bt bd lt : ByteArray) (any half so lo : Bool) (w : World) (hi : bi.size ≤ 1000000) (ht : bt.size ≤ 1000000) (hd : bd.size ≤ 1000000) (hm : m ≤ 65536) (fn fv : ByteArray) (hv : fv.size ≤ 1000000) (hof : ∀ W, Calls Tryz.prog 51 #[.string lt] W fun e W' => e = .returned (.agg #[.int .i64 5, .string fn, .string fv]) ∧ Below W.heap.size W W') (hco : ∀ W, Calls Tryz.prog 52 #[.agg #[.int .i64 5, .string fn, .string fv]] W fun e W' => e = .returned (.bool true) ∧ Below W.heap.size W W') :
    Calls Tryz.prog 33 #[.agg #[.slice A n c, .int .i64 (l : Int), .string lb, .bool any, .bool half, .int .i64 (m : Int), .string bi, .string bt, .string bd, .bool so, .bool lo], .agg #[.string lt, .bool false]] w fun e w' => e = .returned (.tuple #[.agg #[.slice A n c, .int .i64 (l : Int), .string lb, .bool any, .bool half, .int .i64 (m : Int), .string fv, .string bt, .string bd, .bool so, .bool lo], .agg #[.int .i64 0, .string ⟨#[]⟩, .string ⟨#[]⟩, .string ⟨#[]⟩, .int .u64 0], .bool false]) ∧ Below w.heap.size w w' := by
  have hB : Below w.heap.size w ((((w.alloc (.cells #[.slice A n c, .int .i64 (l : Int), .string lb, .bool any, .bool half, .int .i64 (m : Int), .string bi, .string bt, .string bd, .bool so, .bool lo] 51)).alloc (.cells #[.string lt, .bool false] 92)).alloc (.cells #[.slice none 0 0, .int .i64 0, .string ⟨#[]⟩, .bool false, .bool false, .int .i64 0, .string ⟨#[]⟩, .string ⟨#[]⟩, .string ⟨#[]⟩, .bool false, .bool false] 51)).alloc (.cells #[.int .i64 0, .string ⟨#[]⟩, .string ⟨#[]⟩, .string ⟨#[]⟩, .int .u64 0] 40)) := ((((Below.refl _ _).alloc (Nat.le_refl _) _).alloc (by simp) _).alloc (by simp; omega) _).alloc (by simp; omega) _
  have kP := (((Has.new w 51 #[.slice A n c, .int .i64 (l : Int), .string lb, .bool any, .bool half, .int .i64 (m : Int), .string bi, .string bt, .string bd, .bool so, .bool lo]).alloc (.cells #[.string lt, .bool false] 92)).alloc (.cells #[.slice none 0 0, .int .i64 0, .string ⟨#[]⟩, .bool false, .bool false, .int .i64 0, .string ⟨#[]⟩, .string ⟨#[]⟩, .string ⟨#[]⟩, .bool false, .bool false] 51)).alloc (.cells #[.int .i64 0, .string ⟨#[]⟩, .string ⟨#[]⟩, .string ⟨#[]⟩, .int .u64 0] 40)
  have kL := ((Has.new (w.alloc (.cells #[.slice A n c, .int .i64 (l : Int), .string lb, .bool any, .bool half, .int .i64 (m : Int), .string bi, .string bt, .string bd, .bool so, .bool lo] 51)) 92 #[.string lt, .bool false]).alloc (.cells #[.slice none 0 0, .int .i64 0, .string ⟨#[]⟩, .bool false, .bool false, .int .i64 0, .string ⟨#[]⟩, .string ⟨#[]⟩, .string ⟨#[]⟩, .bool false, .bool false] 51)).alloc (.cells #[.int .i64 0, .string ⟨#[]⟩, .string ⟨#[]⟩, .string ⟨#[]⟩, .int .u64 0] 40)
  have kR := (Has.new ((w.alloc (.cells #[.slice A n c, .int .i64 (l : Int), .string lb, .bool any, .bool half, .int .i64 (m : Int), .string bi, .string bt, .string bd, .bool so, .bool lo] 51)).alloc (.cells #[.string lt, .bool false] 92)) 51 #[.slice none 0 0, .int .i64 0, .string ⟨#[]⟩, .bool false, .bool false, .int .i64 0, .string ⟨#[]⟩, .string ⟨#[]⟩, .string ⟨#[]⟩, .bool false, .bool false]).alloc (.cells #[.int .i64 0, .string ⟨#[]⟩, .string ⟨#[]⟩, .string ⟨#[]⟩, .int .u64 0] 40)
  have kS := Has.new (((w.alloc (.cells #[.slice A n c, .int .i64 (l : Int), .string lb, .bool any, .bool half, .int .i64 (m : Int), .string bi, .string bt, .string bd, .bool so, .bool lo] 51)).alloc (.cells #[.string lt, .bool false] 92)).alloc (.cells #[.slice none 0 0, .int .i64 0, .string ⟨#[]⟩, .bool false, .bool false, .int .i64 0, .string ⟨#[]⟩, .string ⟨#[]⟩, .string ⟨#[]⟩, .bool false, .bool false] 51)) 40 #[.int .i64 0, .string ⟨#[]⟩, .string ⟨#[]⟩, .string ⟨#[]⟩, .int .u64 0]
  simp only [World.size_alloc] at kL kR kS
  have hz : w.heap.size + 1 + 1 + 1 + 1 = ((((w.alloc (.cells #[.slice A n c, .int .i64 (l : Int), .string lb, .bool any, .bool half, .int .i64 (m : Int), .string bi, .string bt, .string bd, .bool so, .bool lo] 51)).alloc (.cells #[.string lt, .bool false] 92)).alloc (.cells #[.slice none 0 0, .int .i64 0, .string ⟨#[]⟩, .bool false, .bool false, .int .i64 0, .string ⟨#[]⟩, .string ⟨#[]⟩, .string ⟨#[]⟩, .bool false, .bool false] 51)).alloc (.cells #[.int .i64 0, .string ⟨#[]⟩, .string ⟨#[]⟩, .string ⟨#[]⟩, .int .u64 0] 40)).heap.size := by simp
  obtain ⟨w4, hw4⟩ : ∃ w4, ((((w.alloc (.cells #[.slice A n c, .int .i64 (l : Int), .string lb, .bool any, .bool half, .int .i64 (m : Int), .string bi, .string bt, .string bd, .bool so, .bool lo] 51)).alloc (.cells #[.string lt, .bool false] 92)).alloc (.cells #[.slice none 0 0, .int .i64 0, .string ⟨#[]⟩, .bool false, .bool false, .int .i64 0, .string ⟨#[]⟩, .string ⟨#[]⟩, .string ⟨#[]⟩, .bool false, .bool false] 51)).alloc (.cells #[.int .i64 0, .string ⟨#[]⟩, .string ⟨#[]⟩, .string ⟨#[]⟩, .int .u64 0] 40)) = w4 := ⟨_, rfl⟩
  rw [hw4] at hB kP kL kR kS hz
  have l0 := kL.cell 0
  have l1 := kL.cell 1
  have hz' := Lib.hid hz
  have hw4' := Lib.hid hw4
  have hB' := Lib.hid hB
  have hP' := Lib.hid kP
  have hR' := Lib.hid kR
  have hS' := Lib.hid kS
  clear hw4 hB kP kL kR kS hz
  go_enter Tryz.func33, Tryz.ntmps33
  go_upto_region 4 with (fail)
  rw [hw4'.out]
  clear hw4'
  go_upto_region 5 with (go_at_call 51; (with_reducible refine Calls.mono (hof _) ?_); rintro e u1 ⟨rfl, hb⟩; have hP' := Lib.hid (hP'.out.below hb hP'.out.lt); have hR' := Lib.hid (hR'.out.below hb hR'.out.lt); have hS' := Lib.hid (hS'.out.below hb hS'.out.lt); have hB' := Lib.hid (hB'.out.trans (hb.mono hB'.out.size)); have hz1 := hb.size; clear hb l0 l1)
  have hbA : Below u1.heap.size u1 (u1.alloc (.cells #[.int .i64 5, .string fn, .string fv] 104)) := (Below.refl _ _).alloc (Nat.le_refl _) _
  have hF := Has.new u1 104 #[.int .i64 5, .string fn, .string fv]
  have hlt := hS'.out.lt
  have hP' := Lib.hid (hP'.out.below hbA hP'.out.lt)
  have hR' := Lib.hid (hR'.out.below hbA hR'.out.lt)
  have hS' := Lib.hid (hS'.out.below hbA hS'.out.lt)
  have hB' := Lib.hid (hB'.out.trans (hbA.mono hB'.out.size))
  obtain ⟨F, hFz⟩ : ∃ F, u1.heap.size = F := ⟨_, rfl⟩
  obtain ⟨u2, hn⟩ : ∃ x, u1.alloc (.cells #[.int .i64 5, .string fn, .string fv] 104) = x := ⟨_, rfl⟩
  rw [hn] at hF hP' hR' hS' hB' ⊢
  rw [hFz] at hF ⊢
  have hFw : w.heap.size + 1 + 1 + 1 < F := by omega
  have x0 := hF.cell 0
  have x1 := hF.cell 1
  have x2 := hF.cell 2
  have hF' := Lib.hid hF
  clear hn hF hbA hFz hlt hz1
  go_upto_region 18 with (go_at_call 52; (with_reducible refine Calls.mono (hco _) ?_); rintro e u3 ⟨rfl, hb⟩; have hP' := Lib.hid (hP'.out.below hb hP'.out.lt); have hR' := Lib.hid (hR'.out.below hb hR'.out.lt); have hS' := Lib.hid (hS'.out.below hb hS'.out.lt); have hB' := Lib.hid (hB'.out.trans (hb.mono hB'.out.size)); have hF' := Lib.hid (hF'.out.below hb hF'.out.lt); clear hb x0 x1 x2; have x0 := hF'.out.cell 0; have x1 := hF'.out.cell 1; have x2 := hF'.out.cell 2)
  have v6 := hP'.out.cell 6
  have f6 := hP'.out.free 6
  have kP := hP'.out.put 6 (.string fv)
  have kR := hR'.out.other (j := w.heap.size) (i := 6) (by omega) (.string fv)
  have kS := hS'.out.other (j := w.heap.size) (i := 6) (by omega) (.string fv)
  have kB := hB'.out.setCell (p := ⟨w.heap.size, 6, none⟩) (Nat.le_refl _) (.string fv)
  obtain ⟨u1, hn⟩ : ∃ x, u3.setCell ⟨w.heap.size, 6, none⟩ (.string fv) = x := ⟨_, rfl⟩
  rw [hn] at kP kR kS kB
  have hn' := Lib.hid hn
  clear hP' hR' hS' hB' hn
  have hP' := Lib.hid kP
  have hR' := Lib.hid kR
  have hS' := Lib.hid kS
  have hB' := Lib.hid kB
  clear kP kR kS kB
  go_upto_region 22 with (fail)
  rw [hn'.out]
  clear hn' v6 f6
  have c0 := hP'.out.cell 0
  have c1 := hP'.out.cell 1
  have c2 := hP'.out.cell 2
  have c3 := hP'.out.cell 3
  have c4 := hP'.out.cell 4
  have c5 := hP'.out.cell 5
  have c6 := hP'.out.cell 6
  have c7 := hP'.out.cell 7
  have c8 := hP'.out.cell 8
  have c9 := hP'.out.cell 9
  have c10 := hP'.out.cell 10
  have g0 := hR'.out.cell 0
  have q0 := hR'.out.free 0
  have g1 := hR'.out.cell 1
  have q1 := hR'.out.free 1
  have g2 := hR'.out.cell 2
  have q2 := hR'.out.free 2
  have g3 := hR'.out.cell 3
  have q3 := hR'.out.free 3
  have g4 := hR'.out.cell 4
  have q4 := hR'.out.free 4
  have g5 := hR'.out.cell 5
  have q5 := hR'.out.free 5
  have g6 := hR'.out.cell 6
  have q6 := hR'.out.free 6
  have g7 := hR'.out.cell 7
  have q7 := hR'.out.free 7
  have g8 := hR'.out.cell 8
  have q8 := hR'.out.free 8
  have g9 := hR'.out.cell 9
  have q9 := hR'.out.free 9
  have g10 := hR'.out.cell 10
  have q10 := hR'.out.free 10
  have s0 := hS'.out.cell 0
  have j0 := hS'.out.free 0
  have s1 := hS'.out.cell 1
  have j1 := hS'.out.free 1
  have s2 := hS'.out.cell 2
  have j2 := hS'.out.free 2
  have s3 := hS'.out.cell 3
  have j3 := hS'.out.free 3
  have s4 := hS'.out.cell 4
  have j4 := hS'.out.free 4
  go_wp2
  refine bodyPost_ret (v := .tuple #[.agg #[.slice A n c, .int .i64 (l : Int), .string lb, .bool any, .bool half, .int .i64 (m : Int), .string fv, .string bt, .string bd, .bool so, .bool lo], .agg #[.int .i64 0, .string ⟨#[]⟩, .string ⟨#[]⟩, .string ⟨#[]⟩, .int .u64 0], .bool false]) (by simp [results, Tryz.results33, go_sem, g0, g1, g2, g3, g4, g5, g6, g7, g8, g9, g10, s0, s1, s2, s3, s4]) rfl ⟨rfl, ?_⟩
  have hr1 : w.heap.size ≤ w.heap.size + 1 + 1 := by omega
  have hr2 : w.heap.size ≤ w.heap.size + 1 + 1 + 1 := by omega
  exact ((((((((((((((((hB'.out.setCell (p := ⟨w.heap.size + 1 + 1, 0, none⟩) hr1 _).setCell (p := ⟨w.heap.size + 1 + 1, 1, none⟩) hr1 _).setCell (p := ⟨w.heap.size + 1 + 1, 2, none⟩) hr1 _).setCell (p := ⟨w.heap.size + 1 + 1, 3, none⟩) hr1 _).setCell (p := ⟨w.heap.size + 1 + 1, 4, none⟩) hr1 _).setCell (p := ⟨w.heap.size + 1 + 1, 5, none⟩) hr1 _).setCell (p := ⟨w.heap.size + 1 + 1, 6, none⟩) hr1 _).setCell (p := ⟨w.heap.size + 1 + 1, 7, none⟩) hr1 _).setCell (p := ⟨w.heap.size + 1 + 1, 8, none⟩) hr1 _).setCell (p := ⟨w.heap.size + 1 + 1, 9, none⟩) hr1 _).setCell (p := ⟨w.heap.size + 1 + 1, 10, none⟩) hr1 _).setCell (p := ⟨w.heap.size + 1 + 1 + 1, 0, none⟩) hr2 _).setCell (p := ⟨w.heap.size + 1 + 1 + 1, 1, none⟩) hr2 _).setCell (p := ⟨w.heap.size + 1 + 1 + 1, 2, none⟩) hr2 _).setCell (p := ⟨w.heap.size + 1 + 1 + 1, 3, none⟩) hr2 _).setCell (p := ⟨w.heap.size + 1 + 1 + 1, 4, none⟩) hr2 _)
set_option maxRecDepth 100000 in
set_option maxHeartbeats 2000000 in
theorem line_retry (A : Option Addr) (n c l m : Nat) (lb bi bt bd lt : ByteArray) (any half so lo : Bool) (w : World) (hi : bi.size ≤ 1000000) (ht : bt.size ≤ 1000000) (hd : bd.size ≤ 1000000) (hm : m ≤ 65536) (fn fv : ByteArray) (hv : fv.size ≤ 1000000) (hof : ∀ W, Calls Tryz.prog 51 #[.string lt] W fun e W' => e = .returned (.agg #[.int .i64 6, .string fn, .string fv]) ∧ Below W.heap.size W W') (hco : ∀ W, Calls Tryz.prog 52 #[.agg #[.int .i64 6, .string fn, .string fv]] W fun e W' => e = .returned (.bool true) ∧ Below W.heap.size W W') (sr : Int) (sb : Bool) (hre : ∀ W, Calls Tryz.prog 54 #[.agg #[.int .i64 6, .string fn, .string fv]] W fun e W' => e = .returned (.tuple #[.int .u64 sr, .bool sb]) ∧ Below W.heap.size W W') :
    Calls Tryz.prog 33 #[.agg #[.slice A n c, .int .i64 (l : Int), .string lb, .bool any, .bool half, .int .i64 (m : Int), .string bi, .string bt, .string bd, .bool so, .bool lo], .agg #[.string lt, .bool false]] w fun e w' => e = .returned (.tuple #[.agg #[.slice A n c, .int .i64 (l : Int), .string lb, .bool any, .bool half, .int .i64 (m : Int), .string bi, .string bt, .string bd, .bool so, .bool lo], .agg #[.int .i64 2, .string ⟨#[]⟩, .string ⟨#[]⟩, .string ⟨#[]⟩, .int .u64 sr], .bool true]) ∧ Below w.heap.size w w' := by
  have hB : Below w.heap.size w ((((w.alloc (.cells #[.slice A n c, .int .i64 (l : Int), .string lb, .bool any, .bool half, .int .i64 (m : Int), .string bi, .string bt, .string bd, .bool so, .bool lo] 51)).alloc (.cells #[.string lt, .bool false] 92)).alloc (.cells #[.slice none 0 0, .int .i64 0, .string ⟨#[]⟩, .bool false, .bool false, .int .i64 0, .string ⟨#[]⟩, .string ⟨#[]⟩, .string ⟨#[]⟩, .bool false, .bool false] 51)).alloc (.cells #[.int .i64 0, .string ⟨#[]⟩, .string ⟨#[]⟩, .string ⟨#[]⟩, .int .u64 0] 40)) := ((((Below.refl _ _).alloc (Nat.le_refl _) _).alloc (by simp) _).alloc (by simp; omega) _).alloc (by simp; omega) _
  have kP := (((Has.new w 51 #[.slice A n c, .int .i64 (l : Int), .string lb, .bool any, .bool half, .int .i64 (m : Int), .string bi, .string bt, .string bd, .bool so, .bool lo]).alloc (.cells #[.string lt, .bool false] 92)).alloc (.cells #[.slice none 0 0, .int .i64 0, .string ⟨#[]⟩, .bool false, .bool false, .int .i64 0, .string ⟨#[]⟩, .string ⟨#[]⟩, .string ⟨#[]⟩, .bool false, .bool false] 51)).alloc (.cells #[.int .i64 0, .string ⟨#[]⟩, .string ⟨#[]⟩, .string ⟨#[]⟩, .int .u64 0] 40)
  have kL := ((Has.new (w.alloc (.cells #[.slice A n c, .int .i64 (l : Int), .string lb, .bool any, .bool half, .int .i64 (m : Int), .string bi, .string bt, .string bd, .bool so, .bool lo] 51)) 92 #[.string lt, .bool false]).alloc (.cells #[.slice none 0 0, .int .i64 0, .string ⟨#[]⟩, .bool false, .bool false, .int .i64 0, .string ⟨#[]⟩, .string ⟨#[]⟩, .string ⟨#[]⟩, .bool false, .bool false] 51)).alloc (.cells #[.int .i64 0, .string ⟨#[]⟩, .string ⟨#[]⟩, .string ⟨#[]⟩, .int .u64 0] 40)
  have kR := (Has.new ((w.alloc (.cells #[.slice A n c, .int .i64 (l : Int), .string lb, .bool any, .bool half, .int .i64 (m : Int), .string bi, .string bt, .string bd, .bool so, .bool lo] 51)).alloc (.cells #[.string lt, .bool false] 92)) 51 #[.slice none 0 0, .int .i64 0, .string ⟨#[]⟩, .bool false, .bool false, .int .i64 0, .string ⟨#[]⟩, .string ⟨#[]⟩, .string ⟨#[]⟩, .bool false, .bool false]).alloc (.cells #[.int .i64 0, .string ⟨#[]⟩, .string ⟨#[]⟩, .string ⟨#[]⟩, .int .u64 0] 40)
  have kS := Has.new (((w.alloc (.cells #[.slice A n c, .int .i64 (l : Int), .string lb, .bool any, .bool half, .int .i64 (m : Int), .string bi, .string bt, .string bd, .bool so, .bool lo] 51)).alloc (.cells #[.string lt, .bool false] 92)).alloc (.cells #[.slice none 0 0, .int .i64 0, .string ⟨#[]⟩, .bool false, .bool false, .int .i64 0, .string ⟨#[]⟩, .string ⟨#[]⟩, .string ⟨#[]⟩, .bool false, .bool false] 51)) 40 #[.int .i64 0, .string ⟨#[]⟩, .string ⟨#[]⟩, .string ⟨#[]⟩, .int .u64 0]
  simp only [World.size_alloc] at kL kR kS
  have hz : w.heap.size + 1 + 1 + 1 + 1 = ((((w.alloc (.cells #[.slice A n c, .int .i64 (l : Int), .string lb, .bool any, .bool half, .int .i64 (m : Int), .string bi, .string bt, .string bd, .bool so, .bool lo] 51)).alloc (.cells #[.string lt, .bool false] 92)).alloc (.cells #[.slice none 0 0, .int .i64 0, .string ⟨#[]⟩, .bool false, .bool false, .int .i64 0, .string ⟨#[]⟩, .string ⟨#[]⟩, .string ⟨#[]⟩, .bool false, .bool false] 51)).alloc (.cells #[.int .i64 0, .string ⟨#[]⟩, .string ⟨#[]⟩, .string ⟨#[]⟩, .int .u64 0] 40)).heap.size := by simp
  obtain ⟨w4, hw4⟩ : ∃ w4, ((((w.alloc (.cells #[.slice A n c, .int .i64 (l : Int), .string lb, .bool any, .bool half, .int .i64 (m : Int), .string bi, .string bt, .string bd, .bool so, .bool lo] 51)).alloc (.cells #[.string lt, .bool false] 92)).alloc (.cells #[.slice none 0 0, .int .i64 0, .string ⟨#[]⟩, .bool false, .bool false, .int .i64 0, .string ⟨#[]⟩, .string ⟨#[]⟩, .string ⟨#[]⟩, .bool false, .bool false] 51)).alloc (.cells #[.int .i64 0, .string ⟨#[]⟩, .string ⟨#[]⟩, .string ⟨#[]⟩, .int .u64 0] 40)) = w4 := ⟨_, rfl⟩
  rw [hw4] at hB kP kL kR kS hz
  have l0 := kL.cell 0
  have l1 := kL.cell 1
  have hz' := Lib.hid hz
  have hw4' := Lib.hid hw4
  have hB' := Lib.hid hB
  have hP' := Lib.hid kP
  have hR' := Lib.hid kR
  have hS' := Lib.hid kS
  clear hw4 hB kP kL kR kS hz
  go_enter Tryz.func33, Tryz.ntmps33
  go_upto_region 4 with (fail)
  rw [hw4'.out]
  clear hw4'
  go_upto_region 5 with (go_at_call 51; (with_reducible refine Calls.mono (hof _) ?_); rintro e u1 ⟨rfl, hb⟩; have hP' := Lib.hid (hP'.out.below hb hP'.out.lt); have hR' := Lib.hid (hR'.out.below hb hR'.out.lt); have hS' := Lib.hid (hS'.out.below hb hS'.out.lt); have hB' := Lib.hid (hB'.out.trans (hb.mono hB'.out.size)); have hz1 := hb.size; clear hb l0 l1)
  have hbA : Below u1.heap.size u1 (u1.alloc (.cells #[.int .i64 6, .string fn, .string fv] 104)) := (Below.refl _ _).alloc (Nat.le_refl _) _
  have hF := Has.new u1 104 #[.int .i64 6, .string fn, .string fv]
  have hlt := hS'.out.lt
  have hP' := Lib.hid (hP'.out.below hbA hP'.out.lt)
  have hR' := Lib.hid (hR'.out.below hbA hR'.out.lt)
  have hS' := Lib.hid (hS'.out.below hbA hS'.out.lt)
  have hB' := Lib.hid (hB'.out.trans (hbA.mono hB'.out.size))
  obtain ⟨F, hFz⟩ : ∃ F, u1.heap.size = F := ⟨_, rfl⟩
  obtain ⟨u2, hn⟩ : ∃ x, u1.alloc (.cells #[.int .i64 6, .string fn, .string fv] 104) = x := ⟨_, rfl⟩
  rw [hn] at hF hP' hR' hS' hB' ⊢
  rw [hFz] at hF ⊢
  have hFw : w.heap.size + 1 + 1 + 1 < F := by omega
  have x0 := hF.cell 0
  have x1 := hF.cell 1
  have x2 := hF.cell 2
  have hF' := Lib.hid hF
  clear hn hF hbA hFz hlt hz1
  go_upto_region 20 with (go_at_call 52; (with_reducible refine Calls.mono (hco _) ?_); rintro e u3 ⟨rfl, hb⟩; have hP' := Lib.hid (hP'.out.below hb hP'.out.lt); have hR' := Lib.hid (hR'.out.below hb hR'.out.lt); have hS' := Lib.hid (hS'.out.below hb hS'.out.lt); have hB' := Lib.hid (hB'.out.trans (hb.mono hB'.out.size)); have hF' := Lib.hid (hF'.out.below hb hF'.out.lt); clear hb x0 x1 x2; have x0 := hF'.out.cell 0; have x1 := hF'.out.cell 1; have x2 := hF'.out.cell 2)
  go_upto_region 21 with (go_at_call 54; (with_reducible refine Calls.mono (hre _) ?_); rintro e u4 ⟨rfl, hb⟩; have hP' := Lib.hid (hP'.out.below hb hP'.out.lt); have hR' := Lib.hid (hR'.out.below hb hR'.out.lt); have hS' := Lib.hid (hS'.out.below hb hS'.out.lt); have hB' := Lib.hid (hB'.out.trans (hb.mono hB'.out.size)); clear hb x0 x1 x2)
  have c0 := hP'.out.cell 0
  have c1 := hP'.out.cell 1
  have c2 := hP'.out.cell 2
  have c3 := hP'.out.cell 3
  have c4 := hP'.out.cell 4
  have c5 := hP'.out.cell 5
  have c6 := hP'.out.cell 6
  have c7 := hP'.out.cell 7
  have c8 := hP'.out.cell 8
  have c9 := hP'.out.cell 9
  have c10 := hP'.out.cell 10
  have g0 := hR'.out.cell 0
  have q0 := hR'.out.free 0
  have g1 := hR'.out.cell 1
  have q1 := hR'.out.free 1
  have g2 := hR'.out.cell 2
  have q2 := hR'.out.free 2
  have g3 := hR'.out.cell 3
  have q3 := hR'.out.free 3
  have g4 := hR'.out.cell 4
  have q4 := hR'.out.free 4
  have g5 := hR'.out.cell 5
  have q5 := hR'.out.free 5
  have g6 := hR'.out.cell 6
  have q6 := hR'.out.free 6
  have g7 := hR'.out.cell 7
  have q7 := hR'.out.free 7
  have g8 := hR'.out.cell 8
  have q8 := hR'.out.free 8
  have g9 := hR'.out.cell 9
  have q9 := hR'.out.free 9
  have g10 := hR'.out.cell 10
  have q10 := hR'.out.free 10
  have s0 := hS'.out.cell 0
  have j0 := hS'.out.free 0
  have s1 := hS'.out.cell 1
  have j1 := hS'.out.free 1
  have s2 := hS'.out.cell 2
  have j2 := hS'.out.free 2
  have s3 := hS'.out.cell 3
  have j3 := hS'.out.free 3
  have s4 := hS'.out.cell 4
  have j4 := hS'.out.free 4
  go_wp2
  refine bodyPost_ret (v := .tuple #[.agg #[.slice A n c, .int .i64 (l : Int), .string lb, .bool any, .bool half, .int .i64 (m : Int), .string bi, .string bt, .string bd, .bool so, .bool lo], .agg #[.int .i64 2, .string ⟨#[]⟩, .string ⟨#[]⟩, .string ⟨#[]⟩, .int .u64 sr], .bool true]) (by simp [results, Tryz.results33, go_sem, g0, g1, g2, g3, g4, g5, g6, g7, g8, g9, g10, s0, s1, s2, s3, s4]) rfl ⟨rfl, ?_⟩
  have hr1 : w.heap.size ≤ w.heap.size + 1 + 1 := by omega
  have hr2 : w.heap.size ≤ w.heap.size + 1 + 1 + 1 := by omega
  exact ((((((((((((((((hB'.out.setCell (p := ⟨w.heap.size + 1 + 1, 0, none⟩) hr1 _).setCell (p := ⟨w.heap.size + 1 + 1, 1, none⟩) hr1 _).setCell (p := ⟨w.heap.size + 1 + 1, 2, none⟩) hr1 _).setCell (p := ⟨w.heap.size + 1 + 1, 3, none⟩) hr1 _).setCell (p := ⟨w.heap.size + 1 + 1, 4, none⟩) hr1 _).setCell (p := ⟨w.heap.size + 1 + 1, 5, none⟩) hr1 _).setCell (p := ⟨w.heap.size + 1 + 1, 6, none⟩) hr1 _).setCell (p := ⟨w.heap.size + 1 + 1, 7, none⟩) hr1 _).setCell (p := ⟨w.heap.size + 1 + 1, 8, none⟩) hr1 _).setCell (p := ⟨w.heap.size + 1 + 1, 9, none⟩) hr1 _).setCell (p := ⟨w.heap.size + 1 + 1, 10, none⟩) hr1 _).setCell (p := ⟨w.heap.size + 1 + 1 + 1, 0, none⟩) hr2 _).setCell (p := ⟨w.heap.size + 1 + 1 + 1, 1, none⟩) hr2 _).setCell (p := ⟨w.heap.size + 1 + 1 + 1, 2, none⟩) hr2 _).setCell (p := ⟨w.heap.size + 1 + 1 + 1, 3, none⟩) hr2 _).setCell (p := ⟨w.heap.size + 1 + 1 + 1, 4, none⟩) hr2 _)
set_option maxRecDepth 100000 in
set_option maxHeartbeats 2000000 in
theorem line_other (A : Option Addr) (n c l m : Nat) (lb bi bt bd lt : ByteArray) (any half so lo : Bool) (w : World) (hi : bi.size ≤ 1000000) (ht : bt.size ≤ 1000000) (hd : bd.size ≤ 1000000) (hm : m ≤ 65536) (fk : Int) (fn fv : ByteArray) (hv : fv.size ≤ 1000000) (hof : ∀ W, Calls Tryz.prog 51 #[.string lt] W fun e W' => e = .returned (.agg #[.int .i64 fk, .string fn, .string fv]) ∧ Below W.heap.size W W') (hco : ∀ W, Calls Tryz.prog 52 #[.agg #[.int .i64 fk, .string fn, .string fv]] W fun e W' => e = .returned (.bool true) ∧ Below W.heap.size W W') (n1 : ¬ fk = 1) (n3 : ¬ fk = 3) (n4 : ¬ fk = 4) (n5 : ¬ fk = 5) (n6 : ¬ fk = 6) :
    Calls Tryz.prog 33 #[.agg #[.slice A n c, .int .i64 (l : Int), .string lb, .bool any, .bool half, .int .i64 (m : Int), .string bi, .string bt, .string bd, .bool so, .bool lo], .agg #[.string lt, .bool false]] w fun e w' => e = .returned (.tuple #[.agg #[.slice A n c, .int .i64 (l : Int), .string lb, .bool any, .bool half, .int .i64 (m : Int), .string bi, .string bt, .string bd, .bool so, .bool lo], .agg #[.int .i64 0, .string ⟨#[]⟩, .string ⟨#[]⟩, .string ⟨#[]⟩, .int .u64 0], .bool false]) ∧ Below w.heap.size w w' := by
  have hB : Below w.heap.size w ((((w.alloc (.cells #[.slice A n c, .int .i64 (l : Int), .string lb, .bool any, .bool half, .int .i64 (m : Int), .string bi, .string bt, .string bd, .bool so, .bool lo] 51)).alloc (.cells #[.string lt, .bool false] 92)).alloc (.cells #[.slice none 0 0, .int .i64 0, .string ⟨#[]⟩, .bool false, .bool false, .int .i64 0, .string ⟨#[]⟩, .string ⟨#[]⟩, .string ⟨#[]⟩, .bool false, .bool false] 51)).alloc (.cells #[.int .i64 0, .string ⟨#[]⟩, .string ⟨#[]⟩, .string ⟨#[]⟩, .int .u64 0] 40)) := ((((Below.refl _ _).alloc (Nat.le_refl _) _).alloc (by simp) _).alloc (by simp; omega) _).alloc (by simp; omega) _
  have kP := (((Has.new w 51 #[.slice A n c, .int .i64 (l : Int), .string lb, .bool any, .bool half, .int .i64 (m : Int), .string bi, .string bt, .string bd, .bool so, .bool lo]).alloc (.cells #[.string lt, .bool false] 92)).alloc (.cells #[.slice none 0 0, .int .i64 0, .string ⟨#[]⟩, .bool false, .bool false, .int .i64 0, .string ⟨#[]⟩, .string ⟨#[]⟩, .string ⟨#[]⟩, .bool false, .bool false] 51)).alloc (.cells #[.int .i64 0, .string ⟨#[]⟩, .string ⟨#[]⟩, .string ⟨#[]⟩, .int .u64 0] 40)
  have kL := ((Has.new (w.alloc (.cells #[.slice A n c, .int .i64 (l : Int), .string lb, .bool any, .bool half, .int .i64 (m : Int), .string bi, .string bt, .string bd, .bool so, .bool lo] 51)) 92 #[.string lt, .bool false]).alloc (.cells #[.slice none 0 0, .int .i64 0, .string ⟨#[]⟩, .bool false, .bool false, .int .i64 0, .string ⟨#[]⟩, .string ⟨#[]⟩, .string ⟨#[]⟩, .bool false, .bool false] 51)).alloc (.cells #[.int .i64 0, .string ⟨#[]⟩, .string ⟨#[]⟩, .string ⟨#[]⟩, .int .u64 0] 40)
  have kR := (Has.new ((w.alloc (.cells #[.slice A n c, .int .i64 (l : Int), .string lb, .bool any, .bool half, .int .i64 (m : Int), .string bi, .string bt, .string bd, .bool so, .bool lo] 51)).alloc (.cells #[.string lt, .bool false] 92)) 51 #[.slice none 0 0, .int .i64 0, .string ⟨#[]⟩, .bool false, .bool false, .int .i64 0, .string ⟨#[]⟩, .string ⟨#[]⟩, .string ⟨#[]⟩, .bool false, .bool false]).alloc (.cells #[.int .i64 0, .string ⟨#[]⟩, .string ⟨#[]⟩, .string ⟨#[]⟩, .int .u64 0] 40)
  have kS := Has.new (((w.alloc (.cells #[.slice A n c, .int .i64 (l : Int), .string lb, .bool any, .bool half, .int .i64 (m : Int), .string bi, .string bt, .string bd, .bool so, .bool lo] 51)).alloc (.cells #[.string lt, .bool false] 92)).alloc (.cells #[.slice none 0 0, .int .i64 0, .string ⟨#[]⟩, .bool false, .bool false, .int .i64 0, .string ⟨#[]⟩, .string ⟨#[]⟩, .string ⟨#[]⟩, .bool false, .bool false] 51)) 40 #[.int .i64 0, .string ⟨#[]⟩, .string ⟨#[]⟩, .string ⟨#[]⟩, .int .u64 0]
  simp only [World.size_alloc] at kL kR kS
  have hz : w.heap.size + 1 + 1 + 1 + 1 = ((((w.alloc (.cells #[.slice A n c, .int .i64 (l : Int), .string lb, .bool any, .bool half, .int .i64 (m : Int), .string bi, .string bt, .string bd, .bool so, .bool lo] 51)).alloc (.cells #[.string lt, .bool false] 92)).alloc (.cells #[.slice none 0 0, .int .i64 0, .string ⟨#[]⟩, .bool false, .bool false, .int .i64 0, .string ⟨#[]⟩, .string ⟨#[]⟩, .string ⟨#[]⟩, .bool false, .bool false] 51)).alloc (.cells #[.int .i64 0, .string ⟨#[]⟩, .string ⟨#[]⟩, .string ⟨#[]⟩, .int .u64 0] 40)).heap.size := by simp
  obtain ⟨w4, hw4⟩ : ∃ w4, ((((w.alloc (.cells #[.slice A n c, .int .i64 (l : Int), .string lb, .bool any, .bool half, .int .i64 (m : Int), .string bi, .string bt, .string bd, .bool so, .bool lo] 51)).alloc (.cells #[.string lt, .bool false] 92)).alloc (.cells #[.slice none 0 0, .int .i64 0, .string ⟨#[]⟩, .bool false, .bool false, .int .i64 0, .string ⟨#[]⟩, .string ⟨#[]⟩, .string ⟨#[]⟩, .bool false, .bool false] 51)).alloc (.cells #[.int .i64 0, .string ⟨#[]⟩, .string ⟨#[]⟩, .string ⟨#[]⟩, .int .u64 0] 40)) = w4 := ⟨_, rfl⟩
  rw [hw4] at hB kP kL kR kS hz
  have l0 := kL.cell 0
  have l1 := kL.cell 1
  have hz' := Lib.hid hz
  have hw4' := Lib.hid hw4
  have hB' := Lib.hid hB
  have hP' := Lib.hid kP
  have hR' := Lib.hid kR
  have hS' := Lib.hid kS
  clear hw4 hB kP kL kR kS hz
  go_enter Tryz.func33, Tryz.ntmps33
  go_upto_region 4 with (fail)
  rw [hw4'.out]
  clear hw4'
  go_upto_region 5 with (go_at_call 51; (with_reducible refine Calls.mono (hof _) ?_); rintro e u1 ⟨rfl, hb⟩; have hP' := Lib.hid (hP'.out.below hb hP'.out.lt); have hR' := Lib.hid (hR'.out.below hb hR'.out.lt); have hS' := Lib.hid (hS'.out.below hb hS'.out.lt); have hB' := Lib.hid (hB'.out.trans (hb.mono hB'.out.size)); have hz1 := hb.size; clear hb l0 l1)
  have hbA : Below u1.heap.size u1 (u1.alloc (.cells #[.int .i64 fk, .string fn, .string fv] 104)) := (Below.refl _ _).alloc (Nat.le_refl _) _
  have hF := Has.new u1 104 #[.int .i64 fk, .string fn, .string fv]
  have hlt := hS'.out.lt
  have hP' := Lib.hid (hP'.out.below hbA hP'.out.lt)
  have hR' := Lib.hid (hR'.out.below hbA hR'.out.lt)
  have hS' := Lib.hid (hS'.out.below hbA hS'.out.lt)
  have hB' := Lib.hid (hB'.out.trans (hbA.mono hB'.out.size))
  obtain ⟨F, hFz⟩ : ∃ F, u1.heap.size = F := ⟨_, rfl⟩
  obtain ⟨u2, hn⟩ : ∃ x, u1.alloc (.cells #[.int .i64 fk, .string fn, .string fv] 104) = x := ⟨_, rfl⟩
  rw [hn] at hF hP' hR' hS' hB' ⊢
  rw [hFz] at hF ⊢
  have hFw : w.heap.size + 1 + 1 + 1 < F := by omega
  have x0 := hF.cell 0
  have x1 := hF.cell 1
  have x2 := hF.cell 2
  have hF' := Lib.hid hF
  clear hn hF hbA hFz hlt hz1
  go_upto_region 22 with (go_at_call 52; (with_reducible refine Calls.mono (hco _) ?_); rintro e u3 ⟨rfl, hb⟩; have hP' := Lib.hid (hP'.out.below hb hP'.out.lt); have hR' := Lib.hid (hR'.out.below hb hR'.out.lt); have hS' := Lib.hid (hS'.out.below hb hS'.out.lt); have hB' := Lib.hid (hB'.out.trans (hb.mono hB'.out.size)); have hF' := Lib.hid (hF'.out.below hb hF'.out.lt); clear hb x0 x1 x2; have x0 := hF'.out.cell 0; have x1 := hF'.out.cell 1; have x2 := hF'.out.cell 2)
  have c0 := hP'.out.cell 0
  have c1 := hP'.out.cell 1
  have c2 := hP'.out.cell 2
  have c3 := hP'.out.cell 3
  have c4 := hP'.out.cell 4
  have c5 := hP'.out.cell 5
  have c6 := hP'.out.cell 6
  have c7 := hP'.out.cell 7
  have c8 := hP'.out.cell 8
  have c9 := hP'.out.cell 9
  have c10 := hP'.out.cell 10
  have g0 := hR'.out.cell 0
  have q0 := hR'.out.free 0
  have g1 := hR'.out.cell 1
  have q1 := hR'.out.free 1
  have g2 := hR'.out.cell 2
  have q2 := hR'.out.free 2
  have g3 := hR'.out.cell 3
  have q3 := hR'.out.free 3
  have g4 := hR'.out.cell 4
  have q4 := hR'.out.free 4
  have g5 := hR'.out.cell 5
  have q5 := hR'.out.free 5
  have g6 := hR'.out.cell 6
  have q6 := hR'.out.free 6
  have g7 := hR'.out.cell 7
  have q7 := hR'.out.free 7
  have g8 := hR'.out.cell 8
  have q8 := hR'.out.free 8
  have g9 := hR'.out.cell 9
  have q9 := hR'.out.free 9
  have g10 := hR'.out.cell 10
  have q10 := hR'.out.free 10
  have s0 := hS'.out.cell 0
  have j0 := hS'.out.free 0
  have s1 := hS'.out.cell 1
  have j1 := hS'.out.free 1
  have s2 := hS'.out.cell 2
  have j2 := hS'.out.free 2
  have s3 := hS'.out.cell 3
  have j3 := hS'.out.free 3
  have s4 := hS'.out.cell 4
  have j4 := hS'.out.free 4
  go_wp2
  refine bodyPost_ret (v := .tuple #[.agg #[.slice A n c, .int .i64 (l : Int), .string lb, .bool any, .bool half, .int .i64 (m : Int), .string bi, .string bt, .string bd, .bool so, .bool lo], .agg #[.int .i64 0, .string ⟨#[]⟩, .string ⟨#[]⟩, .string ⟨#[]⟩, .int .u64 0], .bool false]) (by simp [results, Tryz.results33, go_sem, g0, g1, g2, g3, g4, g5, g6, g7, g8, g9, g10, s0, s1, s2, s3, s4]) rfl ⟨rfl, ?_⟩
  have hr1 : w.heap.size ≤ w.heap.size + 1 + 1 := by omega
  have hr2 : w.heap.size ≤ w.heap.size + 1 + 1 + 1 := by omega
  exact ((((((((((((((((hB'.out.setCell (p := ⟨w.heap.size + 1 + 1, 0, none⟩) hr1 _).setCell (p := ⟨w.heap.size + 1 + 1, 1, none⟩) hr1 _).setCell (p := ⟨w.heap.size + 1 + 1, 2, none⟩) hr1 _).setCell (p := ⟨w.heap.size + 1 + 1, 3, none⟩) hr1 _).setCell (p := ⟨w.heap.size + 1 + 1, 4, none⟩) hr1 _).setCell (p := ⟨w.heap.size + 1 + 1, 5, none⟩) hr1 _).setCell (p := ⟨w.heap.size + 1 + 1, 6, none⟩) hr1 _).setCell (p := ⟨w.heap.size + 1 + 1, 7, none⟩) hr1 _).setCell (p := ⟨w.heap.size + 1 + 1, 8, none⟩) hr1 _).setCell (p := ⟨w.heap.size + 1 + 1, 9, none⟩) hr1 _).setCell (p := ⟨w.heap.size + 1 + 1, 10, none⟩) hr1 _).setCell (p := ⟨w.heap.size + 1 + 1 + 1, 0, none⟩) hr2 _).setCell (p := ⟨w.heap.size + 1 + 1 + 1, 1, none⟩) hr2 _).setCell (p := ⟨w.heap.size + 1 + 1 + 1, 2, none⟩) hr2 _).setCell (p := ⟨w.heap.size + 1 + 1 + 1, 3, none⟩) hr2 _).setCell (p := ⟨w.heap.size + 1 + 1 + 1, 4, none⟩) hr2 _)
end Go.Proofs.YtlcfpnegpihicaaGreatDoor
