import Derived.Test.YtfblkfjjpnnhhaaDoorK
import Derived.Test.YtfblkfjjpnnhhaaDoorW
namespace Go.Proofs.YtfblkfjjpnnhhaaDoor
open Go.RowKit

/-! ## The document's own queue -/
/-- Bytes of the document's queue. -/
def Fine (W : World) (S : Nat → Prop) (p : Part) : Prop := Rd W S p.A p.l ∧ p.l.length ≤ p.c ∧ p.c ≤ 9223372036854775807
theorem Fine.kept {W W' : World} {S : Nat → Prop} {p : Part} (h : Fine W S p) (k : Kept S W W') : Fine W' S p := ⟨h.1.kept k, h.2⟩
theorem Fine.mono {W : World} {S S' : Nat → Prop} {p : Part} (h : Fine W S p) (k : ∀ b, S b → S' b) : Fine W S' p := ⟨h.1.mono k, h.2⟩
def refVal (p : Part) (room : Nat) : Value := .agg #[.slice p.A p.l.length p.c, .int .i64 (room : Int)]
def RefTook (S : Nat → Prop) (l : List UInt8) (room : Nat) (m : Int) (w : World) (e : Ending) (w' : World) : Prop :=
  ∃ p x : Part, e = .returned (.tuple #[refVal p room, .slice x.A x.l.length x.c, .int .i64 0]) ∧ p.l = l.drop m.toNat ∧ x.l = l.take m.toNat ∧ Fine w' S p ∧ Fine w' S x ∧ Below w.heap.size w w'

theorem refTake_neg (p : Part) (room : Nat) (m : Int) (w : World) (hm : m < 0) :
    Calls Tryd.prog 23 #[refVal p room, .int .i64 m] w fun e w' => e = .returned (.tuple #[refVal p room, .slice none 0 0, .int .i64 2]) ∧ Below w.heap.size w w' := by
  unfold refVal
  generalize p.l.length = n
  go_enter Tryd.func23, Tryd.ntmps23
  go_wp2
  exact bodyPost_ret (v := .tuple #[.agg #[.slice p.A n p.c, .int .i64 (room : Int)], .slice none 0 0, .int .i64 2]) (by simp [results, Tryd.results23, go_sem]) rfl ⟨rfl, ((Below.refl _ _).alloc (Nat.le_refl _) _).alloc (by simp) _⟩
theorem refTake_any (A : Option Addr) (l : List UInt8) (c : Nat) (S : Nat → Prop) (room m : Nat) (w : World) (hp : Fine w S ⟨A, l, c⟩) (hS : ∀ k, S k → k < w.heap.size) :
    Calls Tryd.prog 23 #[refVal ⟨A, l, c⟩ room, .int .i64 (m : Int)] w (RefTook S l room m w) := by
  unfold refVal
  simp only
  generalize hn : l.length = n
  have hn' := Lib.hid hn
  have hc : n ≤ c := by rw [← hn]; exact hp.2.1
  have hc2 : c ≤ 9223372036854775807 := hp.2.2
  have h0 : (0 : Int) ≤ (m : Int) := by omega
  clear hn
  by_cases hd : m ≤ n
  · have hdi : (m : Int) ≤ (n : Int) := by omega
    have hdc : (m : Int) ≤ (c : Int) := by omega
    by_cases hcm : c = m
    · obtain rfl : n = m := by omega
      subst hcm
      go_enter Tryd.func23, Tryd.ntmps23
      go_wp2
      have k1 := Has.new (w.alloc (.cells #[.slice A c c, .int .i64 (room : Int)] 32)) 32 #[.slice none 0 0, .int .i64 0]
      have k0 := (Has.new w 32 #[.slice A c c, .int .i64 (room : Int)]).alloc (.cells #[.slice none 0 0, .int .i64 0] 32)
      have hB := ((Below.refl w.heap.size w).alloc (Nat.le_refl _) (.cells #[.slice A c c, .int .i64 (room : Int)] 32)).alloc (by simp) (.cells #[.slice none 0 0, .int .i64 0] 32)
      simp only [World.size_alloc] at k1
      generalize (w.alloc (.cells #[.slice A c c, .int .i64 (room : Int)] 32)).alloc (.cells #[.slice none 0 0, .int .i64 0] 32) = w2 at k0 k1 hB ⊢
      have e0 : w2.drew.cell? ⟨w.heap.size, 0, none⟩ = some (.slice A c c) := k0.cell 0
      have e1 : w2.drew.cell? ⟨w.heap.size, 1, none⟩ = some (.int .i64 (room : Int)) := k0.cell 1
      have d0 : w2.cell? ⟨w.heap.size + 1, 0, none⟩ = some (.slice none 0 0) := k1.cell 0
      have d1 : w2.cell? ⟨w.heap.size + 1, 1, none⟩ = some (.int .i64 0) := k1.cell 1
      have f0 : w2.frozen? ⟨w.heap.size + 1, 0, none⟩ = false := k1.free 0
      have f1 : w2.frozen? ⟨w.heap.size + 1, 1, none⟩ = false := k1.free 1
      have hB' : Hid (Below w.heap.size w w2) := hB
      have k1' : Hid (Has w2 (w.heap.size + 1) _ _) := k1
      clear k0 k1 hB
      go_region_held3 (fun w' => w'.cell? ⟨w.heap.size, 0, none⟩ = some (.slice A c c) ∧ w'.cell? ⟨w.heap.size, 1, none⟩ = some (.int .i64 (room : Int)))
        (first | exact ⟨e0, e1⟩ | exact ⟨(World.cell?_of_block (a := ⟨w.heap.size, 0, none⟩) (((only_setCell (w.heap.size + 1) 0 _ _).trans (only_setCell (w.heap.size + 1) 1 _ _)).block w.heap.size (by show w.heap.size ≠ _; omega))).trans e0, (World.cell?_of_block (a := ⟨w.heap.size, 1, none⟩) (((only_setCell (w.heap.size + 1) 0 _ _).trans (only_setCell (w.heap.size + 1) 1 _ _)).block w.heap.size (by show w.heap.size ≠ _; omega))).trans e1⟩)
        (fail)
      go_wp2
      have hF := (k1'.out.put 0 (.slice A 0 0)).put 1 (.int .i64 (room : Int))
      have x0 : (w2.setCell ⟨w.heap.size + 1, 0, none⟩ (.slice A 0 0)).cell? ⟨w.heap.size + 1, 0, none⟩ = some (.slice A 0 0) := (k1'.out.put 0 (.slice A 0 0)).cell 0
      have x1 : ((w2.setCell ⟨w.heap.size + 1, 0, none⟩ (.slice A 0 0)).setCell ⟨w.heap.size + 1, 1, none⟩ (.int .i64 (room : Int))).cell? ⟨w.heap.size + 1, 1, none⟩ = some (.int .i64 (room : Int)) := hF.cell 1
      refine bodyPost_ret (v := .tuple #[.agg #[.slice A 0 0, .int .i64 (room : Int)], .slice A c c, .int .i64 0]) (by simp [results, Tryd.results23, go_sem, x0, x1]) rfl ?_
      have hB2 := (hB'.out.setCell (p := ⟨w.heap.size + 1, 0, none⟩) (by simp) (.slice A 0 0)).setCell (p := ⟨w.heap.size + 1, 1, none⟩) (by simp) (.int .i64 (room : Int)) |>.drew
      have hK : Kept S w _ := Kept.below hB2 hS
      exact ⟨⟨A, [], 0⟩, ⟨A, l, c⟩, by simp only [refVal]; rw [hn'.out]; rfl, by rw [Int.toNat_natCast, List.drop_of_length_le (by have := hn'.out; omega)], by rw [Int.toNat_natCast, List.take_of_length_le (by have := hn'.out; omega)], ⟨Rd.nil _ _ _, Nat.le_refl _, by simp⟩, hp.kept hK, hB2⟩
    · go_enter Tryd.func23, Tryd.ntmps23
      go_wp2
      have k1 := Has.new (w.alloc (.cells #[.slice A n c, .int .i64 (room : Int)] 32)) 32 #[.slice none 0 0, .int .i64 0]
      have k0 := (Has.new w 32 #[.slice A n c, .int .i64 (room : Int)]).alloc (.cells #[.slice none 0 0, .int .i64 0] 32)
      have hB := ((Below.refl w.heap.size w).alloc (Nat.le_refl _) (.cells #[.slice A n c, .int .i64 (room : Int)] 32)).alloc (by simp) (.cells #[.slice none 0 0, .int .i64 0] 32)
      simp only [World.size_alloc] at k1
      generalize (w.alloc (.cells #[.slice A n c, .int .i64 (room : Int)] 32)).alloc (.cells #[.slice none 0 0, .int .i64 0] 32) = w2 at k0 k1 hB ⊢
      have e0 : w2.drew.cell? ⟨w.heap.size, 0, none⟩ = some (.slice A n c) := k0.cell 0
      have e1 : w2.drew.cell? ⟨w.heap.size, 1, none⟩ = some (.int .i64 (room : Int)) := k0.cell 1
      have d0 : w2.cell? ⟨w.heap.size + 1, 0, none⟩ = some (.slice none 0 0) := k1.cell 0
      have d1 : w2.cell? ⟨w.heap.size + 1, 1, none⟩ = some (.int .i64 0) := k1.cell 1
      have f0 : w2.frozen? ⟨w.heap.size + 1, 0, none⟩ = false := k1.free 0
      have f1 : w2.frozen? ⟨w.heap.size + 1, 1, none⟩ = false := k1.free 1
      have hB' : Hid (Below w.heap.size w w2) := hB
      have k1' : Hid (Has w2 (w.heap.size + 1) _ _) := k1
      clear k0 k1 hB
      go_region_held3 (fun w' => w'.cell? ⟨w.heap.size, 0, none⟩ = some (.slice A n c) ∧ w'.cell? ⟨w.heap.size, 1, none⟩ = some (.int .i64 (room : Int)))
        (first | exact ⟨e0, e1⟩ | exact ⟨(World.cell?_of_block (a := ⟨w.heap.size, 0, none⟩) (((only_setCell (w.heap.size + 1) 0 _ _).trans (only_setCell (w.heap.size + 1) 1 _ _)).block w.heap.size (by show w.heap.size ≠ _; omega))).trans e0, (World.cell?_of_block (a := ⟨w.heap.size, 1, none⟩) (((only_setCell (w.heap.size + 1) 0 _ _).trans (only_setCell (w.heap.size + 1) 1 _ _)).block w.heap.size (by show w.heap.size ≠ _; omega))).trans e1⟩)
        (fail)
      go_wp2
      have hF := (k1'.out.put 0 (.slice (A.map (·.add m)) (n - m) (c - m))).put 1 (.int .i64 (room : Int))
      have x0 : (w2.setCell ⟨w.heap.size + 1, 0, none⟩ (.slice (A.map (·.add m)) (n - m) (c - m))).cell? ⟨w.heap.size + 1, 0, none⟩ = some (.slice (A.map (·.add m)) (n - m) (c - m)) := (k1'.out.put 0 (.slice (A.map (·.add m)) (n - m) (c - m))).cell 0
      have x1 : ((w2.setCell ⟨w.heap.size + 1, 0, none⟩ (.slice (A.map (·.add m)) (n - m) (c - m))).setCell ⟨w.heap.size + 1, 1, none⟩ (.int .i64 (room : Int))).cell? ⟨w.heap.size + 1, 1, none⟩ = some (.int .i64 (room : Int)) := hF.cell 1
      refine bodyPost_ret (v := .tuple #[.agg #[.slice (A.map (·.add m)) (n - m) (c - m), .int .i64 (room : Int)], .slice A m c, .int .i64 0]) (by simp [results, Tryd.results23, go_sem, x0, x1]) rfl ?_
      have hB2 := (hB'.out.setCell (p := ⟨w.heap.size + 1, 0, none⟩) (by simp) (.slice (A.map (·.add m)) (n - m) (c - m))).setCell (p := ⟨w.heap.size + 1, 1, none⟩) (by simp) (.int .i64 (room : Int)) |>.drew
      have hK : Kept S w _ := Kept.below hB2 hS
      exact ⟨⟨A.map (·.add m), l.drop m, c - m⟩, ⟨A, l.take m, c⟩, by simp only [refVal, List.length_drop, List.length_take]; rw [hn'.out, Nat.min_eq_left hd], by rw [Int.toNat_natCast], by rw [Int.toNat_natCast],
        ⟨by have := (hp.1.kept hK).drop m c (by have := hn'.out; simp only; omega); rwa [if_neg hcm] at this, by simp only [List.length_drop]; have := hn'.out; omega, by simp only; omega⟩, ⟨(hp.1.kept hK).take m, by simp only [List.length_take]; have := hn'.out; omega, hc2⟩, hB2⟩
  · have hdi : (n : Int) < (m : Int) := by omega
    have hdc : (n : Int) ≤ (c : Int) := by omega
    by_cases hcm : c = n
    · subst hcm
      go_enter Tryd.func23, Tryd.ntmps23
      go_wp2
      have k1 := Has.new (w.alloc (.cells #[.slice A c c, .int .i64 (room : Int)] 32)) 32 #[.slice none 0 0, .int .i64 0]
      have k0 := (Has.new w 32 #[.slice A c c, .int .i64 (room : Int)]).alloc (.cells #[.slice none 0 0, .int .i64 0] 32)
      have hB := ((Below.refl w.heap.size w).alloc (Nat.le_refl _) (.cells #[.slice A c c, .int .i64 (room : Int)] 32)).alloc (by simp) (.cells #[.slice none 0 0, .int .i64 0] 32)
      simp only [World.size_alloc] at k1
      generalize (w.alloc (.cells #[.slice A c c, .int .i64 (room : Int)] 32)).alloc (.cells #[.slice none 0 0, .int .i64 0] 32) = w2 at k0 k1 hB ⊢
      have e0 : w2.drew.cell? ⟨w.heap.size, 0, none⟩ = some (.slice A c c) := k0.cell 0
      have e1 : w2.drew.cell? ⟨w.heap.size, 1, none⟩ = some (.int .i64 (room : Int)) := k0.cell 1
      have d0 : w2.cell? ⟨w.heap.size + 1, 0, none⟩ = some (.slice none 0 0) := k1.cell 0
      have d1 : w2.cell? ⟨w.heap.size + 1, 1, none⟩ = some (.int .i64 0) := k1.cell 1
      have f0 : w2.frozen? ⟨w.heap.size + 1, 0, none⟩ = false := k1.free 0
      have f1 : w2.frozen? ⟨w.heap.size + 1, 1, none⟩ = false := k1.free 1
      have hB' : Hid (Below w.heap.size w w2) := hB
      have k1' : Hid (Has w2 (w.heap.size + 1) _ _) := k1
      clear k0 k1 hB
      go_region_held3 (fun w' => w'.cell? ⟨w.heap.size, 0, none⟩ = some (.slice A c c) ∧ w'.cell? ⟨w.heap.size, 1, none⟩ = some (.int .i64 (room : Int)))
        (first | exact ⟨e0, e1⟩ | exact ⟨(World.cell?_of_block (a := ⟨w.heap.size, 0, none⟩) (((only_setCell (w.heap.size + 1) 0 _ _).trans (only_setCell (w.heap.size + 1) 1 _ _)).block w.heap.size (by show w.heap.size ≠ _; omega))).trans e0, (World.cell?_of_block (a := ⟨w.heap.size, 1, none⟩) (((only_setCell (w.heap.size + 1) 0 _ _).trans (only_setCell (w.heap.size + 1) 1 _ _)).block w.heap.size (by show w.heap.size ≠ _; omega))).trans e1⟩)
        (fail)
      go_wp2
      have hF := (k1'.out.put 0 (.slice A 0 0)).put 1 (.int .i64 (room : Int))
      have x0 : (w2.setCell ⟨w.heap.size + 1, 0, none⟩ (.slice A 0 0)).cell? ⟨w.heap.size + 1, 0, none⟩ = some (.slice A 0 0) := (k1'.out.put 0 (.slice A 0 0)).cell 0
      have x1 : ((w2.setCell ⟨w.heap.size + 1, 0, none⟩ (.slice A 0 0)).setCell ⟨w.heap.size + 1, 1, none⟩ (.int .i64 (room : Int))).cell? ⟨w.heap.size + 1, 1, none⟩ = some (.int .i64 (room : Int)) := hF.cell 1
      refine bodyPost_ret (v := .tuple #[.agg #[.slice A 0 0, .int .i64 (room : Int)], .slice A c c, .int .i64 0]) (by simp [results, Tryd.results23, go_sem, x0, x1]) rfl ?_
      have hB2 := (hB'.out.setCell (p := ⟨w.heap.size + 1, 0, none⟩) (by simp) (.slice A 0 0)).setCell (p := ⟨w.heap.size + 1, 1, none⟩) (by simp) (.int .i64 (room : Int)) |>.drew
      have hK : Kept S w _ := Kept.below hB2 hS
      exact ⟨⟨A, [], 0⟩, ⟨A, l, c⟩, by simp only [refVal]; rw [hn'.out]; rfl, by rw [Int.toNat_natCast, List.drop_of_length_le (by have := hn'.out; omega)], by rw [Int.toNat_natCast, List.take_of_length_le (by have := hn'.out; omega)], ⟨Rd.nil _ _ _, Nat.le_refl _, by simp⟩, hp.kept hK, hB2⟩
    · go_enter Tryd.func23, Tryd.ntmps23
      go_wp2
      have k1 := Has.new (w.alloc (.cells #[.slice A n c, .int .i64 (room : Int)] 32)) 32 #[.slice none 0 0, .int .i64 0]
      have k0 := (Has.new w 32 #[.slice A n c, .int .i64 (room : Int)]).alloc (.cells #[.slice none 0 0, .int .i64 0] 32)
      have hB := ((Below.refl w.heap.size w).alloc (Nat.le_refl _) (.cells #[.slice A n c, .int .i64 (room : Int)] 32)).alloc (by simp) (.cells #[.slice none 0 0, .int .i64 0] 32)
      simp only [World.size_alloc] at k1
      generalize (w.alloc (.cells #[.slice A n c, .int .i64 (room : Int)] 32)).alloc (.cells #[.slice none 0 0, .int .i64 0] 32) = w2 at k0 k1 hB ⊢
      have e0 : w2.drew.cell? ⟨w.heap.size, 0, none⟩ = some (.slice A n c) := k0.cell 0
      have e1 : w2.drew.cell? ⟨w.heap.size, 1, none⟩ = some (.int .i64 (room : Int)) := k0.cell 1
      have d0 : w2.cell? ⟨w.heap.size + 1, 0, none⟩ = some (.slice none 0 0) := k1.cell 0
      have d1 : w2.cell? ⟨w.heap.size + 1, 1, none⟩ = some (.int .i64 0) := k1.cell 1
      have f0 : w2.frozen? ⟨w.heap.size + 1, 0, none⟩ = false := k1.free 0
      have f1 : w2.frozen? ⟨w.heap.size + 1, 1, none⟩ = false := k1.free 1
      have hB' : Hid (Below w.heap.size w w2) := hB
      have k1' : Hid (Has w2 (w.heap.size + 1) _ _) := k1
      clear k0 k1 hB
      go_region_held3 (fun w' => w'.cell? ⟨w.heap.size, 0, none⟩ = some (.slice A n c) ∧ w'.cell? ⟨w.heap.size, 1, none⟩ = some (.int .i64 (room : Int)))
        (first | exact ⟨e0, e1⟩ | exact ⟨(World.cell?_of_block (a := ⟨w.heap.size, 0, none⟩) (((only_setCell (w.heap.size + 1) 0 _ _).trans (only_setCell (w.heap.size + 1) 1 _ _)).block w.heap.size (by show w.heap.size ≠ _; omega))).trans e0, (World.cell?_of_block (a := ⟨w.heap.size, 1, none⟩) (((only_setCell (w.heap.size + 1) 0 _ _).trans (only_setCell (w.heap.size + 1) 1 _ _)).block w.heap.size (by show w.heap.size ≠ _; omega))).trans e1⟩)
        (fail)
      go_wp2
      have hF := (k1'.out.put 0 (.slice (A.map (·.add n)) 0 (c - n))).put 1 (.int .i64 (room : Int))
      have x0 : (w2.setCell ⟨w.heap.size + 1, 0, none⟩ (.slice (A.map (·.add n)) 0 (c - n))).cell? ⟨w.heap.size + 1, 0, none⟩ = some (.slice (A.map (·.add n)) 0 (c - n)) := (k1'.out.put 0 (.slice (A.map (·.add n)) 0 (c - n))).cell 0
      have x1 : ((w2.setCell ⟨w.heap.size + 1, 0, none⟩ (.slice (A.map (·.add n)) 0 (c - n))).setCell ⟨w.heap.size + 1, 1, none⟩ (.int .i64 (room : Int))).cell? ⟨w.heap.size + 1, 1, none⟩ = some (.int .i64 (room : Int)) := hF.cell 1
      refine bodyPost_ret (v := .tuple #[.agg #[.slice (A.map (·.add n)) 0 (c - n), .int .i64 (room : Int)], .slice A n c, .int .i64 0]) (by simp [results, Tryd.results23, go_sem, x0, x1]) rfl ?_
      have hB2 := (hB'.out.setCell (p := ⟨w.heap.size + 1, 0, none⟩) (by simp) (.slice (A.map (·.add n)) 0 (c - n))).setCell (p := ⟨w.heap.size + 1, 1, none⟩) (by simp) (.int .i64 (room : Int)) |>.drew
      have hK : Kept S w _ := Kept.below hB2 hS
      exact ⟨⟨A.map (·.add n), [], c - n⟩, ⟨A, l, c⟩, by simp only [refVal]; rw [hn'.out]; rfl, by rw [Int.toNat_natCast, List.drop_of_length_le (by have := hn'.out; omega)], by rw [Int.toNat_natCast, List.take_of_length_le (by have := hn'.out; omega)],
        ⟨Rd.nil _ _ _, by simp, by simp only; omega⟩, hp.kept hK, hB2⟩
end Go.Proofs.YtfblkfjjpnnhhaaDoor
