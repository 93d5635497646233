import Derived.Test.YtfblkfjjpnnhhaaDoorA
namespace Go.Proofs.YtfblkfjjpnnhhaaDoor
open Go.RowKit

/-- But for the blocks g and r, what was is as it was. -/
structure Turn (g r : Nat) (w w' : World) : Prop where
  os : w'.os = w.os
  tape : w'.tape = w.tape
  output : w'.output = w.output
  size : w.heap.size ≤ w'.heap.size
  block : ∀ k, k < w.heap.size → k ≠ g → k ≠ r → w'.heap[k]? = w.heap[k]?
section
variable {g r : Nat} {w w' : World}
theorem Turn.refl (g r : Nat) (w : World) : Turn g r w w := ⟨rfl, rfl, rfl, Nat.le_refl _, fun _ _ _ _ => rfl⟩
theorem Turn.trans {a b c : World} {r' : Nat} (h : Turn g r a b) (k : Turn g r' b c) (hr : r' = r ∨ a.heap.size ≤ r') : Turn g r a c :=
  ⟨k.os.trans h.os, k.tape.trans h.tape, k.output.trans h.output, Nat.le_trans h.size k.size, fun i hi hg hr' => (k.block i (Nat.lt_of_lt_of_le hi h.size) hg (by omega)).trans (h.block i hi hg hr')⟩
theorem Turn.below {B : Nat} (h : Turn g r w w') (hg : B ≤ g) (hr : B ≤ r) (hB : B ≤ w.heap.size) : Below B w w' := ⟨h.os, h.tape, h.output, h.size, fun k hk => h.block k (by omega) (by omega) (by omega)⟩
theorem turn_of_below (h : Below w.heap.size w w') : Turn g r w w' := ⟨h.os, h.tape, h.output, h.size, fun k hk _ _ => h.block k hk⟩
theorem turn_of_only (h : Only g w w') : Turn g r w w' := ⟨h.os, h.tape, h.output, Nat.le_of_eq h.size.symm, fun k _ hk _ => h.block k hk⟩
theorem turn_of_only' (h : Only r w w') : Turn g r w w' := ⟨h.os, h.tape, h.output, Nat.le_of_eq h.size.symm, fun k _ _ hk => h.block k hk⟩
theorem Turn.drewN (h : Turn g r w w') (q : Nat) : Turn g r w (w'.drewN q) := ⟨h.os, h.tape, h.output, h.size, h.block⟩
theorem Turn.drew (h : Turn g r w w') : Turn g r w w'.drew := ⟨h.os, h.tape, h.output, h.size, h.block⟩
theorem Turn.only (h : Turn g r w w') {w2 : World} (k : Only g w' w2) : Turn g r w w2 := h.trans (turn_of_only k) (.inl rfl)
theorem Turn.only' (h : Turn g r w w') {w2 : World} (k : Only r w' w2) : Turn g r w w2 := h.trans (turn_of_only' k) (.inl rfl)
theorem Turn.kept (h : Turn g r w w') {S : Nat → Prop} (hS : ∀ k, S k → k < w.heap.size ∧ k ≠ g ∧ k ≠ r) : Kept S w w' := fun k hk => h.block k (hS k hk).1 (hS k hk).2.1 (hS k hk).2.2
end

/-- What block g has of a queue: its row lies in block r. -/
structure Que (W : World) (g r : Nat) (A : Option Addr) (cs : List UInt8) (s k room : Nat) : Prop where
  blk : Has W g 46 #[.slice A cs.length cs.length, .int .i64 (s : Int), .int .i64 (k : Int), .int .i64 (room : Int), .bool true]
  row : Row W r 5 A cs
  ne : 0 < cs.length → r ≠ g
  start : s < cs.length ∨ s = 0
  count : k ≤ cs.length
  fits : cs.length ≤ room
  small : room ≤ 1048576
section
variable {W W' : World} {g r : Nat} {A : Option Addr} {cs : List UInt8} {s k room : Nat}
theorem Que.stk (h : Que W g r A cs s k room) : Stk W g r A cs s k := ⟨h.blk.cell 0, h.blk.cell 1, h.blk.cell 2, h.row, h.start, h.count, Nat.le_trans h.fits h.small⟩
theorem Que.lt (h : Que W g r A cs s k room) : g < W.heap.size := h.blk.lt
theorem Que.kept (h : Que W g r A cs s k room) (hg : W'.heap[g]? = W.heap[g]?) (hr : 0 < cs.length → W'.heap[r]? = W.heap[r]?) : Que W' g r A cs s k room :=
  ⟨hg.trans h.blk, fun hl => ⟨(h.row hl).1, (hr hl).trans (h.row hl).2⟩, h.ne, h.start, h.count, h.fits, h.small⟩
theorem Que.below (h : Que W g r A cs s k room) (hb : Below W.heap.size W W') : Que W' g r A cs s k room :=
  h.kept (hb.block g h.lt) (fun hl => hb.block r (h.row.lt hl))
end

section
variable {W : World} {g r : Nat} {A : Option Addr} {cs : List UInt8} {s k room : Nat}
theorem Que.c0 (h : Que W g r A cs s k room) : W.cell? ⟨g, 0, none⟩ = some (.slice A cs.length cs.length) := h.blk.cell 0
theorem Que.c1 (h : Que W g r A cs s k room) : W.cell? ⟨g, 1, none⟩ = some (.int .i64 (s : Int)) := h.blk.cell 1
theorem Que.c2 (h : Que W g r A cs s k room) : W.cell? ⟨g, 2, none⟩ = some (.int .i64 (k : Int)) := h.blk.cell 2
theorem Que.c3 (h : Que W g r A cs s k room) : W.cell? ⟨g, 3, none⟩ = some (.int .i64 (room : Int)) := h.blk.cell 3
theorem Que.c4 (h : Que W g r A cs s k room) : W.cell? ⟨g, 4, none⟩ = some (.bool true) := h.blk.cell 4
theorem Que.cut (h : Que W g r A cs s k room) {m : Nat} (hm : m ≤ k) :
    Que ((W.setCell ⟨g, 1, none⟩ (.int .i64 ((idx cs.length s m : Nat) : Int))).setCell ⟨g, 2, none⟩ (.int .i64 ((k - m : Nat) : Int))).drew g r A cs (idx cs.length s m) (k - m) room ∧
      Only g W ((W.setCell ⟨g, 1, none⟩ (.int .i64 ((idx cs.length s m : Nat) : Int))).setCell ⟨g, 2, none⟩ (.int .i64 ((k - m : Nat) : Int))).drew := by
  have hcnt := h.count
  have hst := h.start
  refine ⟨⟨(h.blk.put 1 _).put 2 _, ?_, h.ne, ?_, by omega, h.fits, h.small⟩, ?_⟩
  · exact fun hl => ⟨(h.row hl).1, ((h.row hl).2.other (h.ne hl) _).other (h.ne hl) _⟩
  · have := idx_or cs.length s m
    omega
  · have h0 := (only_setCell g 1 W (.int .i64 ((idx cs.length s m : Nat) : Int))).trans (only_setCell g 2 _ (.int .i64 ((k - m : Nat) : Int)))
    exact ⟨h0.os, h0.tape, h0.output, h0.size, h0.block⟩
end

set_option maxHeartbeats 400000 in
theorem drop_any (g r : Nat) (A : Option Addr) (cs : List UInt8) (s k room m : Nat) (w : World) (h : Que w g r A cs s k room) (hm : m ≤ k) :
    Calls Tryd.prog 29 #[.pointer (some ⟨g, 0, none⟩), .int .i64 (m : Int)] w fun e w' => e = .returned (.tuple #[]) ∧ Que w' g r A cs (idx cs.length s m) (k - m) room ∧ Only g w w' := by
  go_enter Tryd.func29, Tryd.ntmps29
  go_wp2
  have c0 := h.c0
  have c1 := h.c1
  have c2 := h.c2
  have f1 := h.blk.free 1
  have f2 := h.blk.free 2
  have hcnt := h.count
  have hf := h.fits
  have hsm := h.small
  have hst := h.start
  have hd : (m : Int) ≤ (k : Int) := by omega
  have hd' : IntKind.i64.wrap ((k : Int) - (m : Int)) = ((k - m : Nat) : Int) := by rw [IntKind.wrap_i64]; omega
  go_region_with (go_at_call 34; refine (index_any g cs.length A cs.length s m _ (by assumption) (by assumption) (by omega) (by omega)).mono ?_; rintro e w' ⟨rfl, rfl⟩)
  all_goals go_end0
  all_goals exact ⟨rfl, h.cut hm⟩
/-- What widen leaves. -/
def Wide (g r : Nat) (cs : List UInt8) (s k room need : Nat) (w : World) (e : Ending) (w' : World) : Prop :=
  e = .returned (.tuple #[]) ∧ ∃ r' A' cs' s', Que w' g r' A' cs' s' k room ∧ need ≤ cs'.length ∧ rb cs' s' k = rb cs s k ∧ (r' = r ∨ w.heap.size ≤ r') ∧ Turn g r w w'
theorem rb_zero (bs z : List UInt8) : rb (bs ++ z) 0 bs.length = bs := by
  symm
  refine rb_ext rfl (fun i hi => ?_)
  have := idx_or (bs ++ z).length 0 i
  rw [List.length_append] at this ⊢
  rw [show idx (bs.length + z.length) 0 i = i from by omega, ← getD_some (by rw [List.length_append]; omega), List.getElem?_append, if_pos hi]
theorem wide_fresh {cs : List UInt8} {s k N : Nat} (h : k ≤ N) : (splice (List.replicate N 0) 0 (rb cs s k)).length = N ∧ rb (splice (List.replicate N 0) 0 (rb cs s k)) 0 k = rb cs s k := by
  have hl := rb_length cs s k
  have e : splice (List.replicate N 0) 0 (rb cs s k) = rb cs s k ++ List.replicate (N - k) 0 := by
    simp [splice, hl]
  refine ⟨by rw [length_splice _ _ _ (by rw [hl, List.length_replicate]; omega), List.length_replicate], ?_⟩
  rw [e]
  have := rb_zero (rb cs s k) (List.replicate (N - k) 0)
  rwa [hl] at this
theorem wide_none (g r : Nat) (A : Option Addr) (cs : List UInt8) (s k room need : Nat) (w : World) (h : Que w g r A cs s k room) (hn : need ≤ cs.length) :
    Calls Tryd.prog 32 #[.pointer (some ⟨g, 0, none⟩), .int .i64 (need : Int), .int .i64 (room : Int)] w (Wide g r cs s k room need w) := by
  have c0 := h.c0
  have hd : (need : Int) ≤ (cs.length : Int) := by omega
  have hsm := h.small
  have hf := h.fits
  go_enter Tryd.func32, Tryd.ntmps32
  go_wp2
  refine bodyPost_ret (results_none rfl _ _ _) rfl ?_
  exact ⟨rfl, r, A, cs, s, h, hn, rfl, .inl rfl, Turn.refl _ _ _⟩
set_option maxHeartbeats 400000 in
theorem wide_need (g r : Nat) (A : Option Addr) (cs : List UInt8) (s k room need : Nat) (w : World) (h : Que w g r A cs s k room) (hn : cs.length < need) (hr : need ≤ room) (h2 : 2 * cs.length ≤ need) :
    Calls Tryd.prog 32 #[.pointer (some ⟨g, 0, none⟩), .int .i64 (need : Int), .int .i64 (room : Int)] w (Wide g r cs s k room need w) := by
  have c0 := h.c0
  have c2 := h.c2
  have hgl0 := h.lt
  have hd : (cs.length : Int) < (need : Int) := by omega
  have hdr : (need : Int) ≤ (room : Int) := by omega
  have hsm := h.small
  have hf := h.fits
  have hcnt := h.count
  have hd2 : 2 * (cs.length : Int) ≤ (need : Int) := by omega
  have hmk := fun w => run_make_row' (P := Tryd.prog) 30 5 (.int .u8 0) 1 Tryd.underlying30 info8 rfl .i64 .i64 (need) (by omega) (by omega) w
  go_enter Tryd.func32, Tryd.ntmps32
  go_wp2_with fail
  rw [made]
  have n1 := Has.new w 5 (byts (List.replicate (need) 0)).toArray
  have hB := (Below.refl w.heap.size w).alloc (Nat.le_refl _) (.cells (byts (List.replicate (need) 0)).toArray 5)
  obtain ⟨w1, hw1⟩ : ∃ w1, w.alloc (.cells (byts (List.replicate (need) 0)).toArray 5) = w1 := ⟨_, rfl⟩
  have z1 : w1.heap.size = w.heap.size + 1 := by rw [← hw1]; simp
  rw [hw1] at n1 hB ⊢
  have h1 := Lib.hid (h.below hB)
  have gne : g ≠ w.heap.size := fun e => by have := h.lt; omega
  have hgl := Lib.hid h.lt
  have hrl0 := Lib.hid (fun hl => h.row.lt (W := w) hl)
  have z1' := Lib.hid z1
  clear hw1 z1 hmk h c0 c2
  refine (first_any g r A cs s k k w1 h1.out.stk (Nat.le_refl _)).mono ?_
  rintro e w2 ⟨rfl, m2, hB2, z2⟩
  have hB2' := Lib.hid hB2
  have z2' := Lib.hid z2
  have m2' := Lib.hid m2
  have n2 := Lib.hid (n1.below hB2 n1.lt)
  clear n1 z2 m2 hB2
  go_wp2_with fail
  have hrl := Lib.hid (rb_length cs s k)
  obtain ⟨w3, hrun, m3, o3⟩ := run_copy_bytes (P := Tryd.prog) (w := w2) 30 30 3 5 Tryd.underlying30 size8 (some ⟨w.heap.size, 0, none⟩) (some ⟨w1.heap.size, 0, none⟩) (need) (need) k k w.heap.size 0 (List.replicate (need) 0) 5 n2.out (rb cs s k)
      (by rw [hrl.out]; exact (Nat.min_eq_left (by omega)).symm) (fun _ => rfl) (· = w1.heap.size) m2'.out.rd (by rw [hrl.out, List.length_replicate]; omega)
  rw [hrl.out] at hrun
  rw [hrun]
  clear hrun
  have o3' := Lib.hid o3
  have m3' := Lib.hid m3
  have hw := Lib.hid (wide_fresh (cs := cs) (s := s) (k := k) (N := need) (by omega))
  have h3 : Hid (Que w3 g r A cs s k room) := (h1.out.below hB2'.out).kept (o3.block g gne) (fun hl => o3.block r (fun e => by have := hrl0.out hl; omega))
  have hT : Hid (Turn g r w w3) := by
    show Turn g r w w3
    exact (turn_of_below hB).trans ((turn_of_below (g := g) (r := w.heap.size) (hB2'.out.mono (Nat.le_refl _))).only' o3) (.inr (Nat.le_refl _))
  have b3 := h3.out.blk
  have c0 := h3.out.c0
  have c1 := h3.out.c1
  have f0 := b3.free 0
  have f1 := b3.free 1
  clear m3 o3
  go_wp2
  go_end0
  have hz3 : w3.heap.size = w.heap.size + 1 + 1 := by rw [o3'.out.size, z2'.out, z1'.out]
  refine ⟨rfl, w.heap.size, some ⟨w.heap.size, 0, none⟩, splice (List.replicate (need) 0) 0 (rb cs s k), 0, ⟨?_, ?_, ?_, .inr rfl, ?_, ?_, hsm⟩, ?_, hw.out.2, .inr (Nat.le_refl _), ?_⟩
  · rw [hw.out.1]; exact (b3.put 0 _).put 1 _
  · exact fun _ => ⟨rfl, (m3'.out.other gne.symm _).other gne.symm _⟩
  · exact fun _ => gne.symm
  · rw [hw.out.1]; omega
  · rw [hw.out.1]; omega
  · rw [hw.out.1]; omega
  · exact (hT.out.only (only_setCell g 0 _ _)).only (only_setCell g 1 _ _)
set_option maxHeartbeats 400000 in
theorem wide_two (g r : Nat) (A : Option Addr) (cs : List UInt8) (s k room need : Nat) (w : World) (h : Que w g r A cs s k room) (hn : cs.length < need) (hr : need ≤ room) (h2 : need < 2 * cs.length) (h3 : 2 * cs.length ≤ room) :
    Calls Tryd.prog 32 #[.pointer (some ⟨g, 0, none⟩), .int .i64 (need : Int), .int .i64 (room : Int)] w (Wide g r cs s k room need w) := by
  have c0 := h.c0
  have c2 := h.c2
  have hgl0 := h.lt
  have hd : (cs.length : Int) < (need : Int) := by omega
  have hdr : (need : Int) ≤ (room : Int) := by omega
  have hsm := h.small
  have hf := h.fits
  have hcnt := h.count
  have hd2 : (need : Int) < 2 * (cs.length : Int) := by omega
  have hd3 : 2 * (cs.length : Int) ≤ (room : Int) := by omega
  have hmk := fun w => run_make_row' (P := Tryd.prog) 30 5 (.int .u8 0) 1 Tryd.underlying30 info8 rfl .i64 .i64 (2 * cs.length) (by omega) (by omega) w
  have hmk := fun w => (show (Instr.makeSlice 30 (.int .i64 (2 * (cs.length : Int))) (.int .i64 (2 * (cs.length : Int)))).run Tryd.prog w = .ok (.slice (some ⟨w.heap.size, 0, none⟩) (2 * cs.length) (2 * cs.length)) (w.alloc (.cells (madeCells #[.int .u8 0] (2 * cs.length)) 5)) from by have := hmk w; rwa [show ((2 * cs.length : Nat) : Int) = 2 * (cs.length : Int) from by omega] at this)
  go_enter Tryd.func32, Tryd.ntmps32
  go_wp2_with fail
  rw [made]
  have n1 := Has.new w 5 (byts (List.replicate (2 * cs.length) 0)).toArray
  have hB := (Below.refl w.heap.size w).alloc (Nat.le_refl _) (.cells (byts (List.replicate (2 * cs.length) 0)).toArray 5)
  obtain ⟨w1, hw1⟩ : ∃ w1, w.alloc (.cells (byts (List.replicate (2 * cs.length) 0)).toArray 5) = w1 := ⟨_, rfl⟩
  have z1 : w1.heap.size = w.heap.size + 1 := by rw [← hw1]; simp
  rw [hw1] at n1 hB ⊢
  have h1 := Lib.hid (h.below hB)
  have gne : g ≠ w.heap.size := fun e => by have := h.lt; omega
  have hgl := Lib.hid h.lt
  have hrl0 := Lib.hid (fun hl => h.row.lt (W := w) hl)
  have z1' := Lib.hid z1
  clear hw1 z1 hmk h c0 c2
  refine (first_any g r A cs s k k w1 h1.out.stk (Nat.le_refl _)).mono ?_
  rintro e w2 ⟨rfl, m2, hB2, z2⟩
  have hB2' := Lib.hid hB2
  have z2' := Lib.hid z2
  have m2' := Lib.hid m2
  have n2 := Lib.hid (n1.below hB2 n1.lt)
  clear n1 z2 m2 hB2
  go_wp2_with fail
  have hrl := Lib.hid (rb_length cs s k)
  obtain ⟨w3, hrun, m3, o3⟩ := run_copy_bytes (P := Tryd.prog) (w := w2) 30 30 3 5 Tryd.underlying30 size8 (some ⟨w.heap.size, 0, none⟩) (some ⟨w1.heap.size, 0, none⟩) (2 * cs.length) (2 * cs.length) k k w.heap.size 0 (List.replicate (2 * cs.length) 0) 5 n2.out (rb cs s k)
      (by rw [hrl.out]; exact (Nat.min_eq_left (by omega)).symm) (fun _ => rfl) (· = w1.heap.size) m2'.out.rd (by rw [hrl.out, List.length_replicate]; omega)
  rw [hrl.out] at hrun
  rw [hrun]
  clear hrun
  have o3' := Lib.hid o3
  have m3' := Lib.hid m3
  have hw := Lib.hid (wide_fresh (cs := cs) (s := s) (k := k) (N := 2 * cs.length) (by omega))
  have h3 : Hid (Que w3 g r A cs s k room) := (h1.out.below hB2'.out).kept (o3.block g gne) (fun hl => o3.block r (fun e => by have := hrl0.out hl; omega))
  have hT : Hid (Turn g r w w3) := by
    show Turn g r w w3
    exact (turn_of_below hB).trans ((turn_of_below (g := g) (r := w.heap.size) (hB2'.out.mono (Nat.le_refl _))).only' o3) (.inr (Nat.le_refl _))
  have b3 := h3.out.blk
  have c0 := h3.out.c0
  have c1 := h3.out.c1
  have f0 := b3.free 0
  have f1 := b3.free 1
  clear m3 o3
  go_wp2
  go_end0
  have hz3 : w3.heap.size = w.heap.size + 1 + 1 := by rw [o3'.out.size, z2'.out, z1'.out]
  refine ⟨rfl, w.heap.size, some ⟨w.heap.size, 0, none⟩, splice (List.replicate (2 * cs.length) 0) 0 (rb cs s k), 0, ⟨?_, ?_, ?_, .inr rfl, ?_, ?_, hsm⟩, ?_, hw.out.2, .inr (Nat.le_refl _), ?_⟩
  · rw [hw.out.1]; exact (b3.put 0 _).put 1 _
  · exact fun _ => ⟨rfl, (m3'.out.other gne.symm _).other gne.symm _⟩
  · exact fun _ => gne.symm
  · rw [hw.out.1]; omega
  · rw [hw.out.1]; omega
  · rw [hw.out.1]; omega
  · exact (hT.out.only (only_setCell g 0 _ _)).only (only_setCell g 1 _ _)
set_option maxHeartbeats 400000 in
theorem wide_room (g r : Nat) (A : Option Addr) (cs : List UInt8) (s k room need : Nat) (w : World) (h : Que w g r A cs s k room) (hn : cs.length < need) (hr : need ≤ room) (h2 : need < 2 * cs.length) (h3 : room < 2 * cs.length) :
    Calls Tryd.prog 32 #[.pointer (some ⟨g, 0, none⟩), .int .i64 (need : Int), .int .i64 (room : Int)] w (Wide g r cs s k room need w) := by
  have c0 := h.c0
  have c2 := h.c2
  have hgl0 := h.lt
  have hd : (cs.length : Int) < (need : Int) := by omega
  have hdr : (need : Int) ≤ (room : Int) := by omega
  have hsm := h.small
  have hf := h.fits
  have hcnt := h.count
  have hd2 : (need : Int) < 2 * (cs.length : Int) := by omega
  have hd3 : (room : Int) < 2 * (cs.length : Int) := by omega
  have hmk := fun w => run_make_row' (P := Tryd.prog) 30 5 (.int .u8 0) 1 Tryd.underlying30 info8 rfl .i64 .i64 (room) (by omega) (by omega) w
  go_enter Tryd.func32, Tryd.ntmps32
  go_wp2_with fail
  rw [made]
  have n1 := Has.new w 5 (byts (List.replicate (room) 0)).toArray
  have hB := (Below.refl w.heap.size w).alloc (Nat.le_refl _) (.cells (byts (List.replicate (room) 0)).toArray 5)
  obtain ⟨w1, hw1⟩ : ∃ w1, w.alloc (.cells (byts (List.replicate (room) 0)).toArray 5) = w1 := ⟨_, rfl⟩
  have z1 : w1.heap.size = w.heap.size + 1 := by rw [← hw1]; simp
  rw [hw1] at n1 hB ⊢
  have h1 := Lib.hid (h.below hB)
  have gne : g ≠ w.heap.size := fun e => by have := h.lt; omega
  have hgl := Lib.hid h.lt
  have hrl0 := Lib.hid (fun hl => h.row.lt (W := w) hl)
  have z1' := Lib.hid z1
  clear hw1 z1 hmk h c0 c2
  refine (first_any g r A cs s k k w1 h1.out.stk (Nat.le_refl _)).mono ?_
  rintro e w2 ⟨rfl, m2, hB2, z2⟩
  have hB2' := Lib.hid hB2
  have z2' := Lib.hid z2
  have m2' := Lib.hid m2
  have n2 := Lib.hid (n1.below hB2 n1.lt)
  clear n1 z2 m2 hB2
  go_wp2_with fail
  have hrl := Lib.hid (rb_length cs s k)
  obtain ⟨w3, hrun, m3, o3⟩ := run_copy_bytes (P := Tryd.prog) (w := w2) 30 30 3 5 Tryd.underlying30 size8 (some ⟨w.heap.size, 0, none⟩) (some ⟨w1.heap.size, 0, none⟩) (room) (room) k k w.heap.size 0 (List.replicate (room) 0) 5 n2.out (rb cs s k)
      (by rw [hrl.out]; exact (Nat.min_eq_left (by omega)).symm) (fun _ => rfl) (· = w1.heap.size) m2'.out.rd (by rw [hrl.out, List.length_replicate]; omega)
  rw [hrl.out] at hrun
  rw [hrun]
  clear hrun
  have o3' := Lib.hid o3
  have m3' := Lib.hid m3
  have hw := Lib.hid (wide_fresh (cs := cs) (s := s) (k := k) (N := room) (by omega))
  have h3 : Hid (Que w3 g r A cs s k room) := (h1.out.below hB2'.out).kept (o3.block g gne) (fun hl => o3.block r (fun e => by have := hrl0.out hl; omega))
  have hT : Hid (Turn g r w w3) := by
    show Turn g r w w3
    exact (turn_of_below hB).trans ((turn_of_below (g := g) (r := w.heap.size) (hB2'.out.mono (Nat.le_refl _))).only' o3) (.inr (Nat.le_refl _))
  have b3 := h3.out.blk
  have c0 := h3.out.c0
  have c1 := h3.out.c1
  have f0 := b3.free 0
  have f1 := b3.free 1
  clear m3 o3
  go_wp2
  go_end0
  have hz3 : w3.heap.size = w.heap.size + 1 + 1 := by rw [o3'.out.size, z2'.out, z1'.out]
  refine ⟨rfl, w.heap.size, some ⟨w.heap.size, 0, none⟩, splice (List.replicate (room) 0) 0 (rb cs s k), 0, ⟨?_, ?_, ?_, .inr rfl, ?_, ?_, hsm⟩, ?_, hw.out.2, .inr (Nat.le_refl _), ?_⟩
  · rw [hw.out.1]; exact (b3.put 0 _).put 1 _
  · exact fun _ => ⟨rfl, (m3'.out.other gne.symm _).other gne.symm _⟩
  · exact fun _ => gne.symm
  · rw [hw.out.1]; omega
  · rw [hw.out.1]; omega
  · rw [hw.out.1]; omega
  · exact (hT.out.only (only_setCell g 0 _ _)).only (only_setCell g 1 _ _)
theorem widen_any (g r : Nat) (A : Option Addr) (cs : List UInt8) (s k room need : Nat) (w : World) (h : Que w g r A cs s k room) (hr : need ≤ room) :
    Calls Tryd.prog 32 #[.pointer (some ⟨g, 0, none⟩), .int .i64 (need : Int), .int .i64 (room : Int)] w (Wide g r cs s k room need w) := by
  by_cases h1 : need ≤ cs.length
  · exact wide_none g r A cs s k room need w h h1
  · by_cases h2 : 2 * cs.length ≤ need
    · exact wide_need g r A cs s k room need w h (by omega) hr h2
    · by_cases h3 : 2 * cs.length ≤ room
      · exact wide_two g r A cs s k room need w h (by omega) hr (by omega) h3
      · exact wide_room g r A cs s k room need w h (by omega) hr (by omega) (by omega)
end Go.Proofs.YtfblkfjjpnnhhaaDoor
