import Derived.Test.YtabgpnieekcdhaaDoorAnO
import Derived.Laws.DeepStrings4
namespace Go.Proofs.YtabgpnieekcdhaaDoor
open Go.RowKit Go.Shelf
attribute [local go_sem] Oper.semAt_some

/-! ## A byte comes -/
theorem byteOf_yes (b : UInt8) (w : World) (h : valB b = true) : Calls Tryd.prog 53 #[.int .u8 (b.toNat : Int)] w fun e w' => e = .returned (.bool true) ∧ w' = w := by
  have hb : b.toNat = 9 ∨ (32 ≤ b.toNat ∧ b.toNat ≤ 126) ∨ 128 ≤ b.toNat := by
    have : ∀ n : Fin 256, valB (UInt8.ofFin n) = true → (UInt8.ofFin n).toNat = 9 ∨ (32 ≤ (UInt8.ofFin n).toNat ∧ (UInt8.ofFin n).toNat ≤ 126) ∨ 128 ≤ (UInt8.ofFin n).toNat := by decide +kernel
    exact this b.toFin h
  generalize b.toNat = k at hb
  rcases hb with rfl | ⟨h1, h2⟩ | h3
  · go_enter Tryd.func53, Tryd.ntmps53
    go_wp2
    go_ret
    exact ⟨rfl, rfl⟩
  · have i1 : (32 : Int) ≤ (k : Int) := by omega
    have i2 : (k : Int) ≤ 126 := by omega
    have i3 : ¬ (k : Int) = 9 := by omega
    go_enter Tryd.func53, Tryd.ntmps53
    go_wp2
    go_ret
    exact ⟨rfl, rfl⟩
  · have i1 : (32 : Int) ≤ (k : Int) := by omega
    have i2 : ¬ (k : Int) ≤ 126 := by omega
    have i3 : ¬ (k : Int) = 9 := by omega
    have i4 : (128 : Int) ≤ (k : Int) := by omega
    go_enter Tryd.func53, Tryd.ntmps53
    go_wp2
    go_ret
    exact ⟨rfl, rfl⟩
/-- A reader's cells. -/
abbrev rdX (cl cb cf : Int) (f : ByteArray) (v : Value) (l : ByteArray) (n : Int) (cr d : Bool) (bad : Int) : Array Value := #[.int .i64 cl, .int .i64 cb, .int .i64 cf, .string f, v, .string l, .int .i64 n, .bool cr, .bool d, .int .i64 bad]
abbrev rdZ : Array Value := #[.int .i64 0, .int .i64 0, .int .i64 0, .string ⟨#[]⟩, .slice none 0 0, .string ⟨#[]⟩, .int .i64 0, .bool false, .bool false, .int .i64 0]
/-- Ten stores. -/
abbrev S10 (W : World) (k : Nat) (a0 a1 a2 a3 a4 a5 a6 a7 a8 a9 : Value) : World := ((((((((((W.setCell ⟨k, 0, none⟩ a0).setCell ⟨k, 1, none⟩ a1).setCell ⟨k, 2, none⟩ a2).setCell ⟨k, 3, none⟩ a3).setCell ⟨k, 4, none⟩ a4).setCell ⟨k, 5, none⟩ a5).setCell ⟨k, 6, none⟩ a6).setCell ⟨k, 7, none⟩ a7).setCell ⟨k, 8, none⟩ a8).setCell ⟨k, 9, none⟩ a9)
theorem s10_has {W : World} {k : Nat} {t : TypeId} {cs : Array Value} (h : Has W k t cs) (hs : cs.size = 10) (a0 a1 a2 a3 a4 a5 a6 a7 a8 a9 : Value) : Has (S10 W k a0 a1 a2 a3 a4 a5 a6 a7 a8 a9) k t #[a0, a1, a2, a3, a4, a5, a6, a7, a8, a9] := by
  have h2 := (((((((((h.put 0 a0).put 1 a1).put 2 a2).put 3 a3).put 4 a4).put 5 a5).put 6 a6).put 7 a7).put 8 a8).put 9 a9
  have e : cs = #[cs[0], cs[1], cs[2], cs[3], cs[4], cs[5], cs[6], cs[7], cs[8], cs[9]] := by
    apply Array.ext
    · simpa using hs
    · intro i h1 h2
      simp at h2
      rcases (by omega : i = 0 ∨ i = 1 ∨ i = 2 ∨ i = 3 ∨ i = 4 ∨ i = 5 ∨ i = 6 ∨ i = 7 ∨ i = 8 ∨ i = 9) with rfl | rfl | rfl | rfl | rfl | rfl | rfl | rfl | rfl | rfl <;> rfl
  rw [e] at h2
  simpa using h2
theorem s10_below {W w : World} {B k : Nat} (h : Below B w W) (hk : B ≤ k) (a0 a1 a2 a3 a4 a5 a6 a7 a8 a9 : Value) : Below B w (S10 W k a0 a1 a2 a3 a4 a5 a6 a7 a8 a9) := (((((((((h.setCell (p := ⟨k, 0, none⟩) hk a0).setCell (p := ⟨k, 1, none⟩) hk a1).setCell (p := ⟨k, 2, none⟩) hk a2).setCell (p := ⟨k, 3, none⟩) hk a3).setCell (p := ⟨k, 4, none⟩) hk a4).setCell (p := ⟨k, 5, none⟩) hk a5).setCell (p := ⟨k, 6, none⟩) hk a6).setCell (p := ⟨k, 7, none⟩) hk a7).setCell (p := ⟨k, 8, none⟩) hk a8).setCell (p := ⟨k, 9, none⟩) hk a9
set_option maxRecDepth 100000 in
set_option maxHeartbeats 8000000 in
theorem comes_cr (f l : ByteArray) (A : Option Addr) (m c n : Nat) (cl cb cf : Int) (w : World) (hn : n + 1 ≤ 65536) (hcb : (n : Int) + 1 ≤ cb) :
    Calls Tryd.prog 46 #[.agg (rdX cl cb cf f (.slice A m c) l (n : Int) false false 0), .int .u8 13] w fun e w' => e = .returned (.agg (rdX cl cb cf f (.slice A m c) l ((n : Int) + 1) true false 0)) ∧ Below w.heap.size w w' := by
  obtain ⟨k, hk⟩ : ∃ k, w.heap.size = k := ⟨_, rfl⟩
  obtain ⟨w1, hw1⟩ : ∃ w1, w.alloc (.cells (rdX cl cb cf f (.slice A m c) l (n : Int) false false 0) 77) = w1 := ⟨_, rfl⟩
  have hB1 : Below w.heap.size w w1 := by rw [← hw1]; exact (Below.refl _ _).alloc (Nat.le_refl _) _
  have z0 : Has w1 k 77 (rdX cl cb cf f (.slice A m c) l (n : Int) false false 0) := by rw [← hw1, ← hk]; exact Has.new _ _ _
  have hz1 : w1.heap.size = k + 1 := by rw [← hw1, World.size_alloc, hk]
  obtain ⟨w2, hw2⟩ : ∃ w2, w1.alloc (.cells rdZ 77) = w2 := ⟨_, rfl⟩
  have hB2 : Below w.heap.size w w2 := by rw [← hw2]; exact hB1.alloc (by omega) _
  have y0 : Has w2 k 77 (rdX cl cb cf f (.slice A m c) l (n : Int) false false 0) := by rw [← hw2]; exact z0.alloc _
  have y1 : Has w2 (k + 1) 77 rdZ := by rw [← hw2, ← hz1]; exact Has.new _ _ _
  have hz2 : w2.heap.size = k + 2 := by rw [← hw2, World.size_alloc, hz1]
  have c6 := y0.cell 6
  have v6 := y0.free 6
  obtain ⟨w3, hw3⟩ : ∃ w3, w2.setCell ⟨k, 6, none⟩ (.int .i64 ((n : Int) + 1)) = w3 := ⟨_, rfl⟩
  have x0 : Has w3 k 77 (rdX cl cb cf f (.slice A m c) l ((n : Int) + 1) false false 0) := by rw [← hw3]; simpa using y0.put 6 (.int .i64 ((n : Int) + 1))
  have x1 : Has w3 (k + 1) 77 rdZ := by rw [← hw3]; exact y1.other (by omega) _
  have hB3 : Below w.heap.size w w3 := by rw [← hw3]; exact hB2.setCell (p := ⟨k, 6, none⟩) (by show _ ≤ k; omega) _
  have hz3 : w3.heap.size = k + 2 := by rw [← hw3]; simpa [World.setCell] using hz2
  have hni : ¬ cb < (n : Int) + 1 := by omega
  have d6 := x0.cell 6
  have d1 := x0.cell 1
  have d7 := x0.cell 7
  have v7 := x0.free 7
  obtain ⟨w4, hw4⟩ : ∃ w4, w3.setCell ⟨k, 7, none⟩ (.bool true) = w4 := ⟨_, rfl⟩
  have hsrc : Hid (Has w4 k 77 (rdX cl cb cf f (.slice A m c) l ((n : Int) + 1) true false 0)) := Lib.hid (by rw [← hw4]; simpa using x0.put 7 (.bool true))
  have hdst : Hid (Has w4 (k + 1) 77 rdZ) := Lib.hid (by rw [← hw4]; exact x1.other (by omega) _)
  have hBf : Hid (Below w.heap.size w w4) := Lib.hid (by rw [← hw4]; exact hB3.setCell (p := ⟨k, 7, none⟩) (by show _ ≤ k; omega) _)
  clear hB1 hB2 hB3 z0 y0 y1 x0 x1 hz3
  go_enter Tryd.func46, Tryd.ntmps46
  go_upto_region 15 with (fail)
  clear d6 d1 d7 v7 c6 v6 hw4 hw3
  have e0 := hsrc.out.cell 0
  have g0 := hdst.out.cell 0
  have u0 := hdst.out.free 0
  have e1 := hsrc.out.cell 1
  have g1 := hdst.out.cell 1
  have u1 := hdst.out.free 1
  have e2 := hsrc.out.cell 2
  have g2 := hdst.out.cell 2
  have u2 := hdst.out.free 2
  have e3 := hsrc.out.cell 3
  have g3 := hdst.out.cell 3
  have u3 := hdst.out.free 3
  have e4 := hsrc.out.cell 4
  have g4 := hdst.out.cell 4
  have u4 := hdst.out.free 4
  have e5 := hsrc.out.cell 5
  have g5 := hdst.out.cell 5
  have u5 := hdst.out.free 5
  have e6 := hsrc.out.cell 6
  have g6 := hdst.out.cell 6
  have u6 := hdst.out.free 6
  have e7 := hsrc.out.cell 7
  have g7 := hdst.out.cell 7
  have u7 := hdst.out.free 7
  have e8 := hsrc.out.cell 8
  have g8 := hdst.out.cell 8
  have u8 := hdst.out.free 8
  have e9 := hsrc.out.cell 9
  have g9 := hdst.out.cell 9
  have u9 := hdst.out.free 9
  go_wp2
  have kf := s10_has (k := k + 1) hdst.out rfl (.int .i64 cl) (.int .i64 cb) (.int .i64 cf) (.string f) (.slice A m c) (.string l) (.int .i64 ((n : Int) + 1)) (.bool true) (.bool false) (.int .i64 0)
  have y0 := kf.cell 0
  have y1 := kf.cell 1
  have y2 := kf.cell 2
  have y3 := kf.cell 3
  have y4 := kf.cell 4
  have y5 := kf.cell 5
  have y6 := kf.cell 6
  have y7 := kf.cell 7
  have y8 := kf.cell 8
  have y9 := kf.cell 9
  simp at y0 y1 y2 y3 y4 y5 y6 y7 y8 y9
  refine bodyPost_ret (v := .agg (rdX cl cb cf f (.slice A m c) l ((n : Int) + 1) true false 0)) (by simp [results, Tryd.results46, go_sem, y0, y1, y2, y3, y4, y5, y6, y7, y8, y9]) rfl ?_
  have hBk := s10_below (k := k + 1) hBf.out (by omega) (.int .i64 cl) (.int .i64 cb) (.int .i64 cf) (.string f) (.slice A m c) (.string l) (.int .i64 ((n : Int) + 1)) (.bool true) (.bool false) (.int .i64 0)
  refine ⟨rfl, ?_⟩
  first | exact hBk | (rw [hk] at hBk; exact hBk)
set_option maxRecDepth 100000 in
set_option maxHeartbeats 8000000 in
theorem comes_put (f : ByteArray) (l : List UInt8) (b : UInt8) (A : Option Addr) (m c n : Nat) (cl cb cf : Int) (w : World) (hn : n + 1 ≤ 65536) (hcb : (n : Int) + 1 ≤ cb) (hb : valB b = true) (hl : l.length ≤ 8192) (hcl : (l.length : Int) < cl) :
    Calls Tryd.prog 46 #[.agg (rdX cl cb cf f (.slice A m c) ⟨l.toArray⟩ (n : Int) false false 0), .int .u8 (b.toNat : Int)] w fun e w' => e = .returned (.agg (rdX cl cb cf f (.slice A m c) ⟨(l ++ [b]).toArray⟩ ((n : Int) + 1) false false 0)) ∧ Below w.heap.size w w' := by
  have happ : (⟨l.toArray⟩ : ByteArray) ++ ⟨[b].toArray⟩ = ⟨(l ++ [b]).toArray⟩ := app_str l [b]
  have hlz : (⟨l.toArray⟩ : ByteArray).size = l.length := by show l.toArray.size = _; simp
  obtain ⟨LB, hLB⟩ : ∃ LB : ByteArray, ⟨l.toArray⟩ = LB := ⟨_, rfl⟩
  rw [hLB] at happ hlz ⊢
  clear hLB
  obtain ⟨k, hk⟩ : ∃ k, w.heap.size = k := ⟨_, rfl⟩
  obtain ⟨w1, hw1⟩ : ∃ w1, w.alloc (.cells (rdX cl cb cf f (.slice A m c) LB (n : Int) false false 0) 77) = w1 := ⟨_, rfl⟩
  have hB1 : Below w.heap.size w w1 := by rw [← hw1]; exact (Below.refl _ _).alloc (Nat.le_refl _) _
  have z0 : Has w1 k 77 (rdX cl cb cf f (.slice A m c) LB (n : Int) false false 0) := by rw [← hw1, ← hk]; exact Has.new _ _ _
  have hz1 : w1.heap.size = k + 1 := by rw [← hw1, World.size_alloc, hk]
  obtain ⟨w2, hw2⟩ : ∃ w2, w1.alloc (.cells rdZ 77) = w2 := ⟨_, rfl⟩
  have hB2 : Below w.heap.size w w2 := by rw [← hw2]; exact hB1.alloc (by omega) _
  have y0 : Has w2 k 77 (rdX cl cb cf f (.slice A m c) LB (n : Int) false false 0) := by rw [← hw2]; exact z0.alloc _
  have y1 : Has w2 (k + 1) 77 rdZ := by rw [← hw2, ← hz1]; exact Has.new _ _ _
  have hz2 : w2.heap.size = k + 2 := by rw [← hw2, World.size_alloc, hz1]
  have c6 := y0.cell 6
  have v6 := y0.free 6
  obtain ⟨w3, hw3⟩ : ∃ w3, w2.setCell ⟨k, 6, none⟩ (.int .i64 ((n : Int) + 1)) = w3 := ⟨_, rfl⟩
  have x0 : Has w3 k 77 (rdX cl cb cf f (.slice A m c) LB ((n : Int) + 1) false false 0) := by rw [← hw3]; simpa using y0.put 6 (.int .i64 ((n : Int) + 1))
  have x1 : Has w3 (k + 1) 77 rdZ := by rw [← hw3]; exact y1.other (by omega) _
  have hB3 : Below w.heap.size w w3 := by rw [← hw3]; exact hB2.setCell (p := ⟨k, 6, none⟩) (by show _ ≤ k; omega) _
  have hz3 : w3.heap.size = k + 2 := by rw [← hw3]; simpa [World.setCell] using hz2
  have hni : ¬ cb < (n : Int) + 1 := by omega
  have d6 := x0.cell 6
  have d1 := x0.cell 1
  have d7 := x0.cell 7
  have d0 := x0.cell 0
  have d5 := x0.cell 5
  have hb13 : ¬ (b.toNat : Int) = 13 := fun h => by
    have h13 : b = 13 := UInt8.toNat_inj.1 (by have : (13 : UInt8).toNat = 13 := rfl; omega)
    rw [h13] at hb
    exact absurd hb (by decide)
  have hby := Lib.hid (fun W => byteOf_yes b W hb)
  have hob := (Has.new w3 5 #[.int .u8 (b.toNat : Int)])
  rw [hz3] at hob
  obtain ⟨w4, hw4⟩ : ∃ w4, w3.alloc (.cells #[.int .u8 (b.toNat : Int)] 5) = w4 := ⟨_, rfl⟩
  rw [hw4] at hob
  have p0 : Has w4 k 77 (rdX cl cb cf f (.slice A m c) LB ((n : Int) + 1) false false 0) := by rw [← hw4]; exact x0.alloc _
  have p1 : Has w4 (k + 1) 77 rdZ := by rw [← hw4]; exact x1.alloc _
  have hB4 : Below w.heap.size w w4 := by rw [← hw4]; exact hB3.alloc (by omega) _
  have hcv : (convert 26 9 (.slice (some ⟨k + 2, 0, none⟩) 1 1)).run Tryd.prog w4 = .ok (.string ⟨[b].toArray⟩) w4 :=
    (Has.rd (show Has w4 (k + 2) 5 (byts [b]).toArray from hob)).text 26 9 5 1 Tryd.underlying26 Tryd.underlying5 Tryd.underlying9
  have q5 := p0.cell 5
  have v5 := p0.free 5
  have hsz : (⟨[b].toArray⟩ : ByteArray).size = 1 := rfl
  obtain ⟨sb, hsb⟩ : ∃ sb : ByteArray, ⟨[b].toArray⟩ = sb := ⟨_, rfl⟩
  obtain ⟨lb, hlb⟩ : ∃ lb : ByteArray, ⟨(l ++ [b]).toArray⟩ = lb := ⟨_, rfl⟩
  rw [hsb, hlb] at happ
  rw [hsb] at hcv hsz
  rw [hlb]
  clear hsb hlb
  obtain ⟨w5, hw5⟩ : ∃ w5, w4.setCell ⟨k, 5, none⟩ (.string lb) = w5 := ⟨_, rfl⟩
  have hsrc : Hid (Has w5 k 77 (rdX cl cb cf f (.slice A m c) lb ((n : Int) + 1) false false 0)) := Lib.hid (by rw [← hw5]; simpa using p0.put 5 (.string lb))
  have hdst : Hid (Has w5 (k + 1) 77 rdZ) := Lib.hid (by rw [← hw5]; exact p1.other (by omega) _)
  have hBf : Hid (Below w.heap.size w w5) := Lib.hid (by rw [← hw5]; exact hB4.setCell (p := ⟨k, 5, none⟩) (by show _ ≤ k; omega) _)
  have hcat : ¬ 9223372036854775807 < LB.size + 1 := by omega
  obtain ⟨z, hz⟩ : ∃ z : Int, (LB.size : Int) = z := ⟨_, rfl⟩
  have hli : ¬ cl ≤ z := by omega
  clear hlz hl hcl
  clear hB1 hB2 hB3 hB4 z0 y0 y1 x0 x1 p0 p1 hob hb
  go_enter Tryd.func46, Tryd.ntmps46
  go_upto_region 15 with (go_at_call 53; (with_reducible refine Calls.mono (hby.out _) ?_); rintro e w9 ⟨rfl, hw9⟩; obtain rfl := hw9.symm)
  try rw [hw5]
  clear d6 d1 d7 d0 d5 c6 v6 q5 v5 hcv happ hsz hw3 hw4 hw5 hz3
  have e0 := hsrc.out.cell 0
  have g0 := hdst.out.cell 0
  have u0 := hdst.out.free 0
  have e1 := hsrc.out.cell 1
  have g1 := hdst.out.cell 1
  have u1 := hdst.out.free 1
  have e2 := hsrc.out.cell 2
  have g2 := hdst.out.cell 2
  have u2 := hdst.out.free 2
  have e3 := hsrc.out.cell 3
  have g3 := hdst.out.cell 3
  have u3 := hdst.out.free 3
  have e4 := hsrc.out.cell 4
  have g4 := hdst.out.cell 4
  have u4 := hdst.out.free 4
  have e5 := hsrc.out.cell 5
  have g5 := hdst.out.cell 5
  have u5 := hdst.out.free 5
  have e6 := hsrc.out.cell 6
  have g6 := hdst.out.cell 6
  have u6 := hdst.out.free 6
  have e7 := hsrc.out.cell 7
  have g7 := hdst.out.cell 7
  have u7 := hdst.out.free 7
  have e8 := hsrc.out.cell 8
  have g8 := hdst.out.cell 8
  have u8 := hdst.out.free 8
  have e9 := hsrc.out.cell 9
  have g9 := hdst.out.cell 9
  have u9 := hdst.out.free 9
  go_wp2
  have kf := s10_has (k := k + 1) hdst.out rfl (.int .i64 cl) (.int .i64 cb) (.int .i64 cf) (.string f) (.slice A m c) (.string lb) (.int .i64 ((n : Int) + 1)) (.bool false) (.bool false) (.int .i64 0)
  have y0 := kf.cell 0
  have y1 := kf.cell 1
  have y2 := kf.cell 2
  have y3 := kf.cell 3
  have y4 := kf.cell 4
  have y5 := kf.cell 5
  have y6 := kf.cell 6
  have y7 := kf.cell 7
  have y8 := kf.cell 8
  have y9 := kf.cell 9
  simp at y0 y1 y2 y3 y4 y5 y6 y7 y8 y9
  refine bodyPost_ret (v := .agg (rdX cl cb cf f (.slice A m c) lb ((n : Int) + 1) false false 0)) (by simp [results, Tryd.results46, go_sem, y0, y1, y2, y3, y4, y5, y6, y7, y8, y9]) rfl ?_
  have hBk := s10_below (k := k + 1) hBf.out (by omega) (.int .i64 cl) (.int .i64 cb) (.int .i64 cf) (.string f) (.slice A m c) (.string lb) (.int .i64 ((n : Int) + 1)) (.bool false) (.bool false) (.int .i64 0)
  refine ⟨rfl, ?_⟩
  first | exact hBk | (rw [hk] at hBk; exact hBk)
theorem s10_kept {W : World} {k : Nat} (a0 a1 a2 a3 a4 a5 a6 a7 a8 a9 : Value) {g : Nat} (h : g ≠ k) : (S10 W k a0 a1 a2 a3 a4 a5 a6 a7 a8 a9).heap[g]? = W.heap[g]? := by
  simp [S10, World.setCell, Array.getElem?_modify, Ne.symm h]
/-- A row of one's own is one's own since earlier. -/
theorem HdsO.low {W : World} {n0 n1 : Nat} {v : Value} {l : List PairL} (h : HdsO W n0 v l) (hn : n1 ≤ n0) : HdsO W n1 v l := by
  refine ⟨h.1, ?_⟩
  rcases h.2 with h | ⟨g, cap, cur, hv, hb, r⟩
  · exact .inl h
  · exact .inr ⟨g, cap, cur, hv, Nat.le_trans hn hb, r⟩
set_option maxRecDepth 100000 in
set_option maxHeartbeats 8000000 in
theorem comes_lfA (f l f' l' : ByteArray) (A : Option Addr) (m c n : Nat) (cl cb cf : Int) (d' : Bool) (w : World) (hn : n + 1 ≤ 65536) (hcb : (n : Int) + 1 ≤ cb) (hx : ∀ W, Below w.heap.size w W → Calls Tryd.prog 52 #[.agg (rdX cl cb cf f (.slice A m c) l ((n : Int) + 1) true false 0)] W fun e w' => e = .returned (.agg (rdX cl cb cf f' (.slice A m c) l' ((n : Int) + 1) false d' 0)) ∧ Below W.heap.size W w') :
    Calls Tryd.prog 46 #[.agg (rdX cl cb cf f (.slice A m c) l (n : Int) true false 0), .int .u8 10] w fun e w' => e = .returned (.agg (rdX cl cb cf f' (.slice A m c) l' ((n : Int) + 1) false d' 0)) ∧ Below w.heap.size w w' := by
  obtain ⟨k, hk⟩ : ∃ k, w.heap.size = k := ⟨_, rfl⟩
  obtain ⟨w1, hw1⟩ : ∃ w1, w.alloc (.cells (rdX cl cb cf f (.slice A m c) l (n : Int) true false 0) 77) = w1 := ⟨_, rfl⟩
  have hB1 : Below w.heap.size w w1 := by rw [← hw1]; exact (Below.refl _ _).alloc (Nat.le_refl _) _
  have z0 : Has w1 k 77 (rdX cl cb cf f (.slice A m c) l (n : Int) true false 0) := by rw [← hw1, ← hk]; exact Has.new _ _ _
  have hz1 : w1.heap.size = k + 1 := by rw [← hw1, World.size_alloc, hk]
  obtain ⟨w2, hw2⟩ : ∃ w2, w1.alloc (.cells rdZ 77) = w2 := ⟨_, rfl⟩
  have hB2 : Below w.heap.size w w2 := by rw [← hw2]; exact hB1.alloc (by omega) _
  have y0 : Has w2 k 77 (rdX cl cb cf f (.slice A m c) l (n : Int) true false 0) := by rw [← hw2]; exact z0.alloc _
  have y1 : Has w2 (k + 1) 77 rdZ := by rw [← hw2, ← hz1]; exact Has.new _ _ _
  have hz2 : w2.heap.size = k + 2 := by rw [← hw2, World.size_alloc, hz1]
  have c6 := y0.cell 6
  have v6 := y0.free 6
  obtain ⟨w3, hw3⟩ : ∃ w3, w2.setCell ⟨k, 6, none⟩ (.int .i64 ((n : Int) + 1)) = w3 := ⟨_, rfl⟩
  have x0 : Has w3 k 77 (rdX cl cb cf f (.slice A m c) l ((n : Int) + 1) true false 0) := by rw [← hw3]; simpa using y0.put 6 (.int .i64 ((n : Int) + 1))
  have x1 : Has w3 (k + 1) 77 rdZ := by rw [← hw3]; exact y1.other (by omega) _
  have hB3 : Below w.heap.size w w3 := by rw [← hw3]; exact hB2.setCell (p := ⟨k, 6, none⟩) (by show _ ≤ k; omega) _
  have hz3 : w3.heap.size = k + 2 := by rw [← hw3]; simpa [World.setCell] using hz2
  have hni : ¬ cb < (n : Int) + 1 := by omega
  have d6 := x0.cell 6
  have d1 := x0.cell 1
  have d7 := x0.cell 7
  have j0 := x0.cell 0
  have j1 := x0.cell 1
  have j2 := x0.cell 2
  have j3 := x0.cell 3
  have j4 := x0.cell 4
  have j5 := x0.cell 5
  have j6 := x0.cell 6
  have j7 := x0.cell 7
  have j8 := x0.cell 8
  have j9 := x0.cell 9
  have hen := Lib.hid (hx w3 hB3)
  have hdst := Lib.hid x1
  have hB3' := Lib.hid hB3
  have hz3' := Lib.hid hz3
  clear hB1 hB2 hB3 z0 y0 y1 x0 x1 hx hz3
  go_enter Tryd.func46, Tryd.ntmps46
  go_wp2_with (go_at_call 52; (with_reducible refine Calls.mono hen.out ?_); rintro e w9 ⟨rfl, hb9⟩; have hd9 := hdst.out.below hb9 hdst.out.lt; have hb9' := Lib.hid (below_on hB3'.out hb9); have g0 := hd9.cell 0; have u0 := hd9.free 0; have g1 := hd9.cell 1; have u1 := hd9.free 1; have g2 := hd9.cell 2; have u2 := hd9.free 2; have g3 := hd9.cell 3; have u3 := hd9.free 3; have g4 := hd9.cell 4; have u4 := hd9.free 4; have g5 := hd9.cell 5; have u5 := hd9.free 5; have g6 := hd9.cell 6; have u6 := hd9.free 6; have g7 := hd9.cell 7; have u7 := hd9.free 7; have g8 := hd9.cell 8; have u8 := hd9.free 8; have g9 := hd9.cell 9; have u9 := hd9.free 9; have hd9' := Lib.hid hd9; clear hb9 hd9)
  have kf := s10_has (k := k + 1) hd9'.out rfl (.int .i64 cl) (.int .i64 cb) (.int .i64 cf) (.string f') (.slice A m c) (.string l') (.int .i64 ((n : Int) + 1)) (.bool false) (.bool d') (.int .i64 0)
  have y0 := kf.cell 0
  have y1 := kf.cell 1
  have y2 := kf.cell 2
  have y3 := kf.cell 3
  have y4 := kf.cell 4
  have y5 := kf.cell 5
  have y6 := kf.cell 6
  have y7 := kf.cell 7
  have y8 := kf.cell 8
  have y9 := kf.cell 9
  simp at y0 y1 y2 y3 y4 y5 y6 y7 y8 y9
  refine bodyPost_ret (v := .agg (rdX cl cb cf f' (.slice A m c) l' ((n : Int) + 1) false d' 0)) (by simp [results, Tryd.results46, go_sem, y0, y1, y2, y3, y4, y5, y6, y7, y8, y9]) rfl ?_
  have hBk := s10_below (k := k + 1) hb9'.out (by omega) (.int .i64 cl) (.int .i64 cb) (.int .i64 cf) (.string f') (.slice A m c) (.string l') (.int .i64 ((n : Int) + 1)) (.bool false) (.bool d') (.int .i64 0)
  refine ⟨rfl, ?_⟩
  first | exact hBk | (rw [hk] at hBk; exact hBk)
set_option maxRecDepth 100000 in
set_option maxHeartbeats 8000000 in
theorem comes_lfB (f l f' l' : ByteArray) (A : Option Addr) (m c n : Nat) (cl cb cf : Int) (d' : Bool) (fs : List PairL) (w : World) (hn : n + 1 ≤ 65536) (hcb : (n : Int) + 1 ≤ cb) (hx : ∀ W, Below w.heap.size w W → Calls Tryd.prog 52 #[.agg (rdX cl cb cf f (.slice A m c) l ((n : Int) + 1) true false 0)] W fun e w' => ∃ v', e = .returned (.agg (rdX cl cb cf f' v' l' ((n : Int) + 1) false d' 0)) ∧ HdsO w' W.heap.size v' fs ∧ Below W.heap.size W w') :
    Calls Tryd.prog 46 #[.agg (rdX cl cb cf f (.slice A m c) l (n : Int) true false 0), .int .u8 10] w fun e w' => ∃ v', e = .returned (.agg (rdX cl cb cf f' v' l' ((n : Int) + 1) false d' 0)) ∧ HdsO w' w.heap.size v' fs ∧ Below w.heap.size w w' := by
  obtain ⟨k, hk⟩ : ∃ k, w.heap.size = k := ⟨_, rfl⟩
  obtain ⟨w1, hw1⟩ : ∃ w1, w.alloc (.cells (rdX cl cb cf f (.slice A m c) l (n : Int) true false 0) 77) = w1 := ⟨_, rfl⟩
  have hB1 : Below w.heap.size w w1 := by rw [← hw1]; exact (Below.refl _ _).alloc (Nat.le_refl _) _
  have z0 : Has w1 k 77 (rdX cl cb cf f (.slice A m c) l (n : Int) true false 0) := by rw [← hw1, ← hk]; exact Has.new _ _ _
  have hz1 : w1.heap.size = k + 1 := by rw [← hw1, World.size_alloc, hk]
  obtain ⟨w2, hw2⟩ : ∃ w2, w1.alloc (.cells rdZ 77) = w2 := ⟨_, rfl⟩
  have hB2 : Below w.heap.size w w2 := by rw [← hw2]; exact hB1.alloc (by omega) _
  have y0 : Has w2 k 77 (rdX cl cb cf f (.slice A m c) l (n : Int) true false 0) := by rw [← hw2]; exact z0.alloc _
  have y1 : Has w2 (k + 1) 77 rdZ := by rw [← hw2, ← hz1]; exact Has.new _ _ _
  have hz2 : w2.heap.size = k + 2 := by rw [← hw2, World.size_alloc, hz1]
  have c6 := y0.cell 6
  have v6 := y0.free 6
  obtain ⟨w3, hw3⟩ : ∃ w3, w2.setCell ⟨k, 6, none⟩ (.int .i64 ((n : Int) + 1)) = w3 := ⟨_, rfl⟩
  have x0 : Has w3 k 77 (rdX cl cb cf f (.slice A m c) l ((n : Int) + 1) true false 0) := by rw [← hw3]; simpa using y0.put 6 (.int .i64 ((n : Int) + 1))
  have x1 : Has w3 (k + 1) 77 rdZ := by rw [← hw3]; exact y1.other (by omega) _
  have hB3 : Below w.heap.size w w3 := by rw [← hw3]; exact hB2.setCell (p := ⟨k, 6, none⟩) (by show _ ≤ k; omega) _
  have hz3 : w3.heap.size = k + 2 := by rw [← hw3]; simpa [World.setCell] using hz2
  have hni : ¬ cb < (n : Int) + 1 := by omega
  obtain ⟨fl, hfl⟩ : ∃ fl, fs.length = fl := ⟨_, rfl⟩
  have d6 := x0.cell 6
  have d1 := x0.cell 1
  have d7 := x0.cell 7
  have j0 := x0.cell 0
  have j1 := x0.cell 1
  have j2 := x0.cell 2
  have j3 := x0.cell 3
  have j4 := x0.cell 4
  have j5 := x0.cell 5
  have j6 := x0.cell 6
  have j7 := x0.cell 7
  have j8 := x0.cell 8
  have j9 := x0.cell 9
  have hen := Lib.hid (hx w3 hB3)
  have hdst := Lib.hid x1
  have hB3' := Lib.hid hB3
  have hz3' := Lib.hid hz3
  clear hB1 hB2 hB3 z0 y0 y1 x0 x1 hx hz3
  go_enter Tryd.func46, Tryd.ntmps46
  go_wp2_with (go_at_call 52; (with_reducible refine Calls.mono hen.out ?_); rintro e w9 ⟨v9, rfl, ho9, hb9⟩; obtain ⟨A9, c9, hv9, hp9⟩ := ho9.prs; subst hv9; have ho9' := Lib.hid ho9; clear ho9 hp9; rw [hfl]; have hd9 := hdst.out.below hb9 hdst.out.lt; have hb9' := Lib.hid (below_on hB3'.out hb9); have g0 := hd9.cell 0; have u0 := hd9.free 0; have g1 := hd9.cell 1; have u1 := hd9.free 1; have g2 := hd9.cell 2; have u2 := hd9.free 2; have g3 := hd9.cell 3; have u3 := hd9.free 3; have g4 := hd9.cell 4; have u4 := hd9.free 4; have g5 := hd9.cell 5; have u5 := hd9.free 5; have g6 := hd9.cell 6; have u6 := hd9.free 6; have g7 := hd9.cell 7; have u7 := hd9.free 7; have g8 := hd9.cell 8; have u8 := hd9.free 8; have g9 := hd9.cell 9; have u9 := hd9.free 9; have hd9' := Lib.hid hd9; clear hb9 hd9)
  have kf := s10_has (k := k + 1) hd9'.out rfl (.int .i64 cl) (.int .i64 cb) (.int .i64 cf) (.string f') (.slice A9 fl c9) (.string l') (.int .i64 ((n : Int) + 1)) (.bool false) (.bool d') (.int .i64 0)
  have y0 := kf.cell 0
  have y1 := kf.cell 1
  have y2 := kf.cell 2
  have y3 := kf.cell 3
  have y4 := kf.cell 4
  have y5 := kf.cell 5
  have y6 := kf.cell 6
  have y7 := kf.cell 7
  have y8 := kf.cell 8
  have y9 := kf.cell 9
  simp at y0 y1 y2 y3 y4 y5 y6 y7 y8 y9
  refine bodyPost_ret (v := .agg (rdX cl cb cf f' (.slice A9 fl c9) l' ((n : Int) + 1) false d' 0)) (by simp [results, Tryd.results46, go_sem, y0, y1, y2, y3, y4, y5, y6, y7, y8, y9]) rfl ?_
  have hBk := s10_below (k := k + 1) hb9'.out (by omega) (.int .i64 cl) (.int .i64 cb) (.int .i64 cf) (.string f') (.slice A9 fl c9) (.string l') (.int .i64 ((n : Int) + 1)) (.bool false) (.bool d') (.int .i64 0)
  have hHk : HdsO (S10 w9 (k + 1) (.int .i64 cl) (.int .i64 cb) (.int .i64 cf) (.string f') (.slice A9 fl c9) (.string l') (.int .i64 ((n : Int) + 1)) (.bool false) (.bool d') (.int .i64 0)) w.heap.size (.slice A9 fl c9) fs := by
    have h1 := ho9'.out
    rw [hfl] at h1
    refine HdsO.low ?_ (n0 := w3.heap.size) (by rw [hz3'.out]; omega)
    refine h1.kept fun g hg => s10_kept _ _ _ _ _ _ _ _ _ _ ?_
    have := (h1.own g hg).1
    rw [hz3'.out] at this
    omega
  refine ⟨_, rfl, ?_, ?_⟩
  · first | exact hHk | (rw [hk] at hHk; exact hHk)
  · first | exact hBk | (rw [hk] at hBk; exact hBk)
end Go.Proofs.YtabgpnieekcdhaaDoor
