import Derived.Test.YtfblkfjjpnnhhaaDoorU
import Derived.Deep.RegionHeld3
namespace Go.Proofs.YtfblkfjjpnnhhaaDoor
open Go.RowKit

/-! ## The document's Push -/
theorem byte_info : ∃ i, Tryd.prog.info? 5 = some i ∧ i.zero = some (.int .u8 0) ∧ i.size = 1 ∧ i.bytes = 1 := by
  have h := info8
  cases hi : Tryd.prog.info? 5 with
  | none => rw [hi] at h; cases h
  | some i =>
    rw [hi] at h
    injection h with h
    injection h with h1 h
    injection h with h2 h3
    exact ⟨i, rfl, h1, h2, h3⟩
theorem refPush_no (A : Option Addr) (l : List UInt8) (c : Nat) (B : Option Addr) (y : List UInt8) (d : Nat) (room : Nat) (w : World) (hl : l.length ≤ room) (_hr : room ≤ 1048576) (hno : room < l.length + y.length) (hy : y.length ≤ 600) :
    Calls Tryd.prog 22 #[refVal ⟨A, l, c⟩ room, .slice B y.length d] w fun e w' => e = .returned (.tuple #[refVal ⟨A, l, c⟩ room, .int .i64 120]) ∧ Below w.heap.size w w' := by
  unfold refVal
  simp only
  generalize l.length = n at *
  generalize y.length = m at *
  have hw : IntKind.i64.wrap ((room : Int) - (n : Int)) = (room : Int) - (n : Int) := by rw [IntKind.wrap_i64]; omega
  have hd : decide ((room : Int) - (n : Int) < (m : Int)) = true := by rw [decide_eq_true_iff]; omega
  go_enter Tryd.func22, Tryd.ntmps22
  go_wp2
  refine bodyPost_ret (v := .tuple #[.agg #[.slice A n c, .int .i64 (room : Int)], .int .i64 120]) (by simp [results, Tryd.results22, go_sem]) rfl ⟨rfl, ?_⟩
  exact ((Below.refl w.heap.size w).alloc (Nat.le_refl _) _).alloc (by simp) _
def RefPushed (l : List UInt8) (room : Nat) (w : World) (e : Ending) (w' : World) : Prop :=
  ∃ p : Part, e = .returned (.tuple #[refVal p room, .int .i64 0]) ∧ p.l = l ∧ Fine w' (fun k => w.heap.size ≤ k ∧ k < w'.heap.size) p ∧ Below w.heap.size w w'
set_option maxHeartbeats 1000000 in
theorem refPush_ok (A : Option Addr) (l : List UInt8) (c : Nat) (B : Option Addr) (y : List UInt8) (d : Nat) (S : Nat → Prop) (room : Nat) (w : World) (hp : Fine w S ⟨A, l, c⟩) (hq : Rd w S B y) (hS : ∀ k, S k → k < w.heap.size) (hr : room ≤ 1048576) (hok : l.length + y.length ≤ room) :
    Calls Tryd.prog 22 #[refVal ⟨A, l, c⟩ room, .slice B y.length d] w (RefPushed (l ++ y) room w) := by
  obtain ⟨i8, hi8, z8, s8, b8⟩ := byte_info
  have hi8' := Lib.hid hi8
  have z8' := Lib.hid z8
  have s8' := Lib.hid s8
  have b8' := Lib.hid b8
  clear hi8 z8 s8 b8
  unfold refVal
  simp only
  generalize hn : l.length = n at *
  generalize hm : y.length = m at *
  have hn' := Lib.hid hn
  have hm' := Lib.hid hm
  have hp' := Lib.hid hp
  have hq' := Lib.hid hq
  clear hn hm hp hq
  have hw : IntKind.i64.wrap ((room : Int) - (n : Int)) = (room : Int) - (n : Int) := by rw [IntKind.wrap_i64]; omega
  have hd : decide ((room : Int) - (n : Int) < (m : Int)) = false := by rw [decide_eq_false_iff_not]; omega
  go_enter Tryd.func22, Tryd.ntmps22
  go_wp2
  have k1 := Has.new (w.alloc (.cells #[.slice A n c, .int .i64 (room : Int)] 32)) 32 #[.slice none 0 0, .int .i64 0]
  have k0 := (Has.new w 32 #[.slice A n c, .int .i64 (room : Int)]).alloc (.cells #[.slice none 0 0, .int .i64 0] 32)
  have hB := ((Below.refl w.heap.size w).alloc (Nat.le_refl _) (.cells #[.slice A n c, .int .i64 (room : Int)] 32)).alloc (by simp) (.cells #[.slice none 0 0, .int .i64 0] 32)
  have hz : ((w.alloc (.cells #[.slice A n c, .int .i64 (room : Int)] 32)).alloc (.cells #[.slice none 0 0, .int .i64 0] 32)).heap.size = w.heap.size + 2 := by simp
  simp only [World.size_alloc] at k1
  generalize (w.alloc (.cells #[.slice A n c, .int .i64 (room : Int)] 32)).alloc (.cells #[.slice none 0 0, .int .i64 0] 32) = w2 at k0 k1 hB hz ⊢
  have e0 : w2.cell? ⟨w.heap.size, 0, none⟩ = some (.slice A n c) := k0.cell 0
  have e1 : w2.cell? ⟨w.heap.size, 1, none⟩ = some (.int .i64 (room : Int)) := k0.cell 1
  have k0' := Lib.hid k0
  have k1' := Lib.hid k1
  have hB' := Lib.hid hB
  have hz' := Lib.hid hz
  clear k0 k1 hB hz
  have hBa : Hid (Below w.heap.size w (w2.alloc (.cells #[] 5)).drew) := (hB'.out.alloc (by have := hz'.out; omega) _).drew
  have hza : Hid ((w2.alloc (.cells #[] 5)).drew.heap.size = w.heap.size + 3) := by have := hz'.out; show _ = _; simp [this]
  have hRl : Hid (Rd (w2.alloc (.cells #[] 5)).drew S A l) := hp'.out.1.kept (Kept.below hBa.out hS)
  have hka : Hid (Has (w2.alloc (.cells #[] 5)).drew (w.heap.size + 1) _ _) := k1'.out.alloc _
  go_region_held3 (fun w' => w'.cell? ⟨w.heap.size, 0, none⟩ = some (.slice A n c) ∧ w'.cell? ⟨w.heap.size, 1, none⟩ = some (.int .i64 (room : Int)))
    (first | exact ⟨e0, e1⟩ | exact hS3 | exact hS4 | exact ⟨(World.cell?_of_block (a := ⟨w.heap.size, 0, none⟩) (((only_setCell (w.heap.size + 1) 0 _ _).trans (only_setCell (w.heap.size + 1) 1 _ _)).block w.heap.size (by show w.heap.size ≠ _; omega))).trans hS4.1, (World.cell?_of_block (a := ⟨w.heap.size, 1, none⟩) (((only_setCell (w.heap.size + 1) 0 _ _).trans (only_setCell (w.heap.size + 1) 1 _ _)).block w.heap.size (by show w.heap.size ≠ _; omega))).trans hS4.2⟩ | exact ⟨(World.cell?_alloc_lt _ _ ⟨w.heap.size, 0, none⟩ (by have := hz'.out; show w.heap.size < w2.heap.size; omega)).trans e0, (World.cell?_alloc_lt _ _ ⟨w.heap.size, 1, none⟩ (by have := hz'.out; show w.heap.size < w2.heap.size; omega)).trans e1⟩)
    (first
      | (refine step_append_bytes rfl (.tmp 16) (.tmp 18) 30 rfl 5 i8 _ Tryd.underlying30 hi8'.out z8'.out s8'.out b8'.out rfl w2.heap.size 0 [] rfl (own_empty w2 5) S A l c (by rw [hn'.out]; rfl) hRl.out (by have := hn'.out; simp only [List.length_nil]; omega) ?_
         intro g3 c3 w3 o3 gr3 hg3
         have hge : Hid (w2.heap.size ≤ g3) := by show _ ≤ _; rcases hg3 with h | h <;> have := hza.out <;> have := hz'.out <;> omega
         have hB3 : Hid (Below w.heap.size w w3) := hBa.out.trans (gr3.below (by have := hz'.out; omega) (by have := hza.out; omega))
         have hz3 : Hid (w.heap.size + 3 ≤ w3.heap.size) := by have := gr3.size; have := hza.out; show _ ≤ _; omega
         have o3' := Lib.hid o3
         have hk3 : Hid (Has w3 (w.heap.size + 1) _ _) := (gr3.block _ (by have := hza.out; omega) (by have := hz'.out; omega)).trans hka.out
         have hS3 : w3.cell? ⟨w.heap.size, 0, none⟩ = some (.slice A n c) ∧ w3.cell? ⟨w.heap.size, 1, none⟩ = some (.int .i64 (room : Int)) := by
           have hb := gr3.block w.heap.size (by have := hza.out; omega) (by have := hz'.out; omega)
           have hk := hb.trans (k0'.out.alloc (.cells #[] 5))
           exact ⟨(show Has w3 w.heap.size _ _ from hk).cell 0, (show Has w3 w.heap.size _ _ from hk).cell 1⟩
         clear o3 gr3 hg3)
      | (refine step_append_bytes rfl (.tmp 19) (.tmp 20) 30 rfl 5 i8 _ Tryd.underlying30 hi8'.out z8'.out s8'.out b8'.out rfl g3 c3 _ rfl o3'.out S B y d (by rw [hm'.out]; rfl) (hq'.out.kept (Kept.below hB3.out hS)) (by have := hn'.out; have := hm'.out; simp only [List.nil_append]; omega) ?_
         intro g4 c4 w4 o4 gr4 hg4
         have hge4 : Hid (w2.heap.size ≤ g4) := by show _ ≤ _; rcases hg4 with h | h <;> have := hz3.out <;> have := hz'.out <;> have := hge.out <;> omega
         have hB4 : Hid (Below w.heap.size w w4) := hB3.out.trans (gr4.below (by have := hz'.out; have := hge.out; omega) (by have := hz3.out; omega))
         have o4' := Lib.hid o4
         have hS4 : w4.cell? ⟨w.heap.size, 0, none⟩ = some (.slice A n c) ∧ w4.cell? ⟨w.heap.size, 1, none⟩ = some (.int .i64 (room : Int)) := by
           have hb := gr4.block w.heap.size (by have := hz3.out; omega) (by have := hz'.out; have := hge.out; omega)
           exact ⟨(World.cell?_of_block (a := ⟨w.heap.size, 0, none⟩) hb).trans hS3.1, (World.cell?_of_block (a := ⟨w.heap.size, 1, none⟩) hb).trans hS3.2⟩
         have hk4 : Hid (Has w4 (w.heap.size + 1) _ _) := (gr4.block _ (by have := hz3.out; omega) (by have := hz'.out; have := hge.out; omega)).trans hk3.out
         have d0 : w4.cell? ⟨w.heap.size + 1, 0, none⟩ = some (.slice none 0 0) := hk4.out.cell 0
         have d1 : w4.cell? ⟨w.heap.size + 1, 1, none⟩ = some (.int .i64 0) := hk4.out.cell 1
         have f0 : w4.frozen? ⟨w.heap.size + 1, 0, none⟩ = false := hk4.out.free 0
         have f1 : w4.frozen? ⟨w.heap.size + 1, 1, none⟩ = false := hk4.out.free 1
         clear o4 gr4 hg4)
      | fail)
  have hx : (([] ++ l) ++ y).length = l.length + y.length := by simp
  have o5 : Hid (Own w4 5 g4 c4 (l ++ y)) := o4'.out
  have hl5 : (l ++ y).length = l.length + y.length := List.length_append
  clear hx
  go_wp2
  have hF := (hk4.out.put 0 (.slice (some ⟨g4, 0, none⟩) (l.length + y.length) c4)).put 1 (.int .i64 (room : Int))
  have x0 : (w4.setCell ⟨w.heap.size + 1, 0, none⟩ (.slice (some ⟨g4, 0, none⟩) (l.length + y.length) c4)).cell? ⟨w.heap.size + 1, 0, none⟩ = some (.slice (some ⟨g4, 0, none⟩) (l.length + y.length) c4) := (hk4.out.put 0 (.slice (some ⟨g4, 0, none⟩) (l.length + y.length) c4)).cell 0
  have x1 : ((w4.setCell ⟨w.heap.size + 1, 0, none⟩ (.slice (some ⟨g4, 0, none⟩) (l.length + y.length) c4)).setCell ⟨w.heap.size + 1, 1, none⟩ (.int .i64 (room : Int))).cell? ⟨w.heap.size + 1, 1, none⟩ = some (.int .i64 (room : Int)) := hF.cell 1
  refine bodyPost_ret (v := .tuple #[.agg #[.slice (some ⟨g4, 0, none⟩) (l.length + y.length) c4, .int .i64 (room : Int)], .int .i64 0]) (by simp [results, Tryd.results22, go_sem, x0, x1]) rfl ?_
  have hgz := hz'.out
  have hg4 := hge4.out
  have hlt := o5.out.lt
  have hB5 := (hB4.out.setCell (p := ⟨w.heap.size + 1, 0, none⟩) (by simp) (.slice (some ⟨g4, 0, none⟩) (l.length + y.length) c4)).setCell (p := ⟨w.heap.size + 1, 1, none⟩) (by simp) (.int .i64 (room : Int))
  refine ⟨⟨some ⟨g4, 0, none⟩, l ++ y, c4⟩, by simp only [refVal]; rw [hl5], rfl, ⟨?_, hlt.2.1, by have := hlt.2.2; simp only [maxLen] at this; exact this⟩, hB5⟩
  refine (o5.out.rd.kept ?_).mono (S := (· = g4)) ?_
  · rintro k rfl
    exact (((only_setCell (w.heap.size + 1) 0 _ _).trans (only_setCell (w.heap.size + 1) 1 _ _)).block _ (by omega))
  · rintro k rfl
    exact ⟨by omega, by simpa using hlt.1⟩
end Go.Proofs.YtfblkfjjpnnhhaaDoor
