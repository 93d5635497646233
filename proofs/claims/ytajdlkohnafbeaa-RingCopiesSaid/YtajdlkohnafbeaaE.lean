import Derived.Test.YtajdlkohnafbeaaD
import Derived.Test.YtajdlkohnafbeaaShelf
import Derived.Deep.RegionHeld3
import Derived.LoopTactic
namespace Go.Proofs.Ytajdlkohnafbeaa
open Go.RowKit

/-! ## Copy -/
def CloneOf (most : Nat) (row : List Int) (w : World) (e : Ending) (w' : World) : Prop :=
  ∃ r cap cs, e = .returned (.slice (some ⟨r, 0, none⟩) most cap) ∧ Has w' r 3 cs ∧ (∀ j (h : j < row.length), cs[j]? = some (.int .i64 row[j])) ∧ w.heap.size ≤ r ∧ Below w.heap.size w w'
theorem clone_any (r most cap : Nat) (cs : Array Value) (row : List Int) (w : World) (hb : Has w r 3 cs) (hc : ∀ j (h : j < row.length), cs[j]? = some (.int .i64 row[j])) (hl : row.length = most) (h2 : most ≤ 4096) :
    Calls Try.prog 31 #[.slice (some ⟨r, 0, none⟩) most cap] w (CloneOf most row w) := by
  refine (Try.slices_Clone_int r 0 most cap row w (by omega) (by omega) (fun j hj => ?_)).mono ?_
  · rw [Nat.zero_add, hb.cell, hc j hj, List.getD_eq_getElem?_getD, List.getElem?_eq_getElem hj]
    rfl
  · rintro e w' ⟨v', rfl, hown, hne, hB⟩
    rcases hown.2 with ⟨h1, _⟩ | ⟨g', cap', cur, rfl, hbase, hg, hnc, hcm, hcs, htk⟩
    · exact absurd h1 hne
    · refine ⟨g', cap', cur, rfl, hg, fun j hj => ?_, hbase, hB⟩
      have h3 : (row.take most).map (Value.int .i64) = row.map (Value.int .i64) := by rw [List.take_of_length_le (by omega)]
      rw [h3] at htk
      have h4 : (row.map (Value.int .i64))[j]? = some (.int .i64 row[j]) := by simp [hj]
      rw [← htk] at h4
      rw [List.getElem?_take] at h4
      split at h4
      · rw [← Array.getElem?_toList]; exact h4
      · cases h4
def CopyOf (most first : Nat) (vs : List Int) (w : World) (e : Ending) (w' : World) : Prop :=
  ∃ g r, e = .returned (.pointer (some ⟨g, 0, none⟩)) ∧ Rg w' g r most first vs ∧ w.heap.size ≤ g ∧ w.heap.size ≤ r ∧ Below w.heap.size w w'
theorem copy_none (v : Option Addr) (w : World) (h : NoR w v) :
    Calls Try.prog 13 #[.pointer v] w fun e w' => e = .returned (.pointer none) ∧ w = w' := by
  have hn := Lib.hid (none_yes v w h)
  clear h
  go_enter Try.func13, Try.ntmps13
  go_wp2_with (go_at_call 30; refine hn.out.mono ?_; rintro e w' ⟨rfl, rfl⟩)
  go_ret
  exact ⟨rfl, rfl⟩
theorem copy_any (g r most first : Nat) (vs : List Int) (w : World) (h : Rg w g r most first vs) :
    Calls Try.prog 13 #[.pointer (some ⟨g, 0, none⟩)] w (CopyOf most first vs w) := by
  have hno := Lib.hid (none_no g r most first vs w h)
  obtain ⟨cap, cs, row, hat⟩ := h
  have hcl := Lib.hid (clone_any r most cap cs row w.drew hat.body hat.cells hat.len hat.top)
  have d0 : w.drew.cell? ⟨g, 0, none⟩ = some (.int .u64 (first : Int)) := hat.head.cell 0
  have d1 : w.drew.cell? ⟨g, 1, none⟩ = some (.int .u64 ((first + vs.length : Nat) : Int)) := hat.head.cell 1
  have d2 : w.drew.cell? ⟨g, 2, none⟩ = some (.slice (some ⟨r, 0, none⟩) most cap) := hat.head.cell 2
  have hgl := hat.head.lt
  have hat' := Lib.hid hat
  clear hat
  generalize hn : first + vs.length = n at d1
  have hn' := Lib.hid hn
  clear hn
  go_enter Try.func13, Try.ntmps13
  go_wp2_with (go_at_call 30; refine hno.out.mono ?_; rintro e w' ⟨rfl, rfl⟩)
  go_region_held3 (fun w' => w'.cell? ⟨g, 0, none⟩ = some (.int .u64 (first : Int)) ∧ w'.cell? ⟨g, 1, none⟩ = some (.int .u64 (n : Int)) ∧ w'.cell? ⟨g, 2, none⟩ = some (.slice (some ⟨r, 0, none⟩) most cap))
    (first | exact ⟨d0, d1, d2⟩ | exact hS2 | exact ⟨(World.cell?_alloc_lt _ _ _ hlt2).trans hS2.1, (World.cell?_alloc_lt _ _ _ hlt2).trans hS2.2.1, (World.cell?_alloc_lt _ _ _ hlt2).trans hS2.2.2⟩)
    (first | (go_at_call 31; refine hcl.out.mono ?_; rintro e w2 ⟨r2, cap2, cs2, rfl, hb2, hc2, hr2, hB2⟩; have hb2' := Lib.hid hb2; have hc2' := Lib.hid hc2; have hr2' := Lib.hid hr2; have hB2' : Hid (Below w.heap.size w w2) := ⟨hB2.os, hB2.tape, hB2.output, hB2.size, hB2.block⟩; have hS2 : w2.cell? ⟨g, 0, none⟩ = some (.int .u64 (first : Int)) ∧ w2.cell? ⟨g, 1, none⟩ = some (.int .u64 (n : Int)) ∧ w2.cell? ⟨g, 2, none⟩ = some (.slice (some ⟨r, 0, none⟩) most cap) := ⟨(hB2.cell (p := ⟨g, 0, none⟩) hgl).trans d0, (hB2.cell (p := ⟨g, 1, none⟩) hgl).trans d1, (hB2.cell (p := ⟨g, 2, none⟩) hgl).trans d2⟩; have hlt2 := Nat.lt_of_lt_of_le hgl hB2.size; clear hb2 hc2 hr2 hB2))
  go_wp2
  go_ret
  have ha := hat'.out
  refine ⟨w2.heap.size, r2, rfl, ⟨cap2, cs2, row, ?_, hb2'.out.alloc _, hc2'.out, ha.len, ha.at_, ha.pos, ha.top, ha.fit, ha.last⟩, hB2'.out.size, hr2'.out, hB2'.out.alloc hB2'.out.size _⟩
  rw [hn'.out]
  exact Has.new _ _ _
/-- But for block g the world is as it was. -/
structure Only (g : Nat) (w w' : World) : Prop where
  os : w'.os = w.os
  tape : w'.tape = w.tape
  output : w'.output = w.output
  size : w'.heap.size = w.heap.size
  block : ∀ k, k ≠ g → w'.heap[k]? = w.heap[k]?
theorem Only.refl (g : Nat) (w : World) : Only g w w := ⟨rfl, rfl, rfl, rfl, fun _ _ => rfl⟩
theorem Only.below {g B : Nat} {w w' : World} (h : Only g w w') (hB : B ≤ g) : Below B w w' := ⟨h.os, h.tape, h.output, by rw [h.size]; exact Nat.le_refl _, fun k hk => h.block k (by omega)⟩
theorem Only.draws {g : Nat} {w w' : World} (h : Only g w w') (q : Nat) : Only g w (w'.drewN q) := ⟨h.os, h.tape, h.output, h.size, h.block⟩
theorem only_setCell (g i : Nat) (w : World) (u : Value) : Only g w (w.setCell ⟨g, i, none⟩ u) := ⟨rfl, rfl, rfl, by simp [World.setCell], fun k hk => Below.heap_setCell w ⟨g, i, none⟩ u k hk⟩
theorem Only.trans {g : Nat} {a b c : World} (h : Only g a b) (k : Only g b c) : Only g a c := ⟨k.os.trans h.os, k.tape.trans h.tape, k.output.trans h.output, k.size.trans h.size, fun i hi => (k.block i hi).trans (h.block i hi)⟩
/-! ## A span's indices -/
theorem rest_any (g r most first i s n : Nat) (vs : List Int) (w : World) (h : Rg w g r most first vs) (hn : first + vs.length = n) (hs : min (max i first) n = s) :
    Calls Try.prog 40 #[.pointer (some ⟨g, 0, none⟩), .int .u64 (i : Int)] w fun e w' => e = .returned (.agg #[.int .u64 (s : Int), .int .u64 (n : Int)]) ∧ Below w.heap.size w w' := by
  have c0 : w.cell? ⟨g, 0, none⟩ = some (.int .u64 (first : Int)) := h.c0
  have c1 : w.cell? ⟨g, 1, none⟩ = some (.int .u64 (n : Int)) := by rw [← hn]; exact h.c1
  have hlt := h.lt.1
  have hle : first ≤ n := by omega
  clear h hn
  go_enter Try.func40, Try.ntmps40
  go_wp2
  have e0 : (w.alloc (.cells #[.int .u64 0, .int .u64 0] 48)).cell? ⟨g, 0, none⟩ = some (.int .u64 (first : Int)) := (World.cell?_alloc_lt _ _ _ hlt).trans c0
  have e1 : (w.alloc (.cells #[.int .u64 0, .int .u64 0] 48)).cell? ⟨g, 1, none⟩ = some (.int .u64 (n : Int)) := (World.cell?_alloc_lt _ _ _ hlt).trans c1
  have hb := (Below.refl w.heap.size w).alloc (Nat.le_refl _) (.cells #[.int .u64 0, .int .u64 0] 48)
  have hk := Has.new w 48 #[.int .u64 0, .int .u64 0]
  generalize w.alloc (.cells #[.int .u64 0, .int .u64 0] 48) = w1 at e0 e1 hb hk ⊢
  have hb' := Lib.hid hb
  have d0 := hk.cell 0
  have d1 := hk.cell 1
  have f0 := hk.free 0
  have f1 := hk.free 1
  simp at d0 d1
  have hk' := Lib.hid hk
  clear c0 c1 hb hk
  go_quiet (fail)
  rw [show min (max (i : Int) (first : Int)) (n : Int) = (s : Int) by omega]
  have hs' := Lib.hid hs
  clear hs
  go_wp2
  have hw := hb'.out
  have x0 := ((hk'.out.drewN nq).put 0 (.int .u64 (s : Int))).cell 0
  have x1 := (((hk'.out.drewN nq).put 0 (.int .u64 (s : Int))).put 1 (.int .u64 (n : Int))).cell 1
  simp at x0 x1
  refine bodyPost_ret (v := .agg #[.int .u64 (s : Int), .int .u64 (n : Int)]) (by simp [results, Try.results40, go_sem, x0, x1]) rfl ⟨rfl, ?_⟩
  exact ((below_draws hw nq).setCell (by simp) _).setCell (by simp) _
theorem count_at (k a b n : Nat) (w : World) (c0 : w.cell? ⟨k, 0, none⟩ = some (.int .u64 (a : Int))) (c1 : w.cell? ⟨k, 1, none⟩ = some (.int .u64 (b : Int))) (hn : a + n = b) (h2 : n ≤ 4096) (h3 : b ≤ 18446744073709551615) :
    Calls Try.prog 34 #[.pointer (some ⟨k, 0, none⟩)] w fun e w' => e = .returned (.int .i64 (n : Int)) ∧ ∃ q, w' = w.drewN q := by
  have h4 : a ≤ b := by omega
  have h5 : (b : Int) - (a : Int) ≤ 4096 := by omega
  have hn' := Lib.hid hn
  clear hn
  go_enter Try.func34, Try.ntmps34
  go_wp2
  go_quiet (fail)
  go_wp2
  go_ret
  exact ⟨ret_int (by have := hn'.out; omega), _, rfl⟩
/-- Indices, rising. -/
def idxs (s n : Nat) : List Value := (List.range n).map fun j => .int .u64 ((s + j : Nat) : Int)
theorem idxs_length (s n : Nat) : (idxs s n).length = n := by simp [idxs]
theorem idxs_at {s n j : Nat} (h : j < n) : (idxs s n).toArray[j]? = some (.int .u64 ((s + j : Nat) : Int)) := by simp [idxs, h]
theorem infoU64 : (Try.prog.info? 22).map (fun i => (i.zero, i.size, i.bytes)) = some (some (.int .u64 0), 1, 8) := by kernel_rfl
/-- The first j indices lie, the rest is yet 0. -/
def half (s n j : Nat) : Array Value := (idxs s j ++ List.replicate (n - j) (Value.int .u64 0)).toArray
theorem half_none (s n : Nat) : madeCells #[.int .u64 0] n = half s n 0 := by
  apply Array.ext
  · simp [madeCells, half, idxs]
  · intro i h1 h2
    simp [madeCells, half, idxs, Nat.mod_one]
theorem half_all (s n : Nat) : half s n n = (idxs s n).toArray := by simp [half]
theorem half_size {s n j : Nat} (h : j ≤ n) : (half s n j).size = n := by simp [half, idxs_length]; omega
theorem half_set {s n j : Nat} (h : j < n) : (half s n j).setIfInBounds j (.int .u64 ((s + j : Nat) : Int)) = half s n (j + 1) := by
  apply Array.ext'
  unfold half
  rw [Array.toList_setIfInBounds]
  simp only
  have h1 : idxs s (j + 1) = idxs s j ++ [.int .u64 ((s + j : Nat) : Int)] := by simp [idxs, List.range_succ]
  have h2 : n - j = (n - (j + 1)) + 1 := by omega
  rw [h1, h2, List.replicate_succ, List.set_append, if_neg (by rw [idxs_length]; omega), idxs_length, Nat.sub_self]
  simp
def ListOf (s n : Nat) (w : World) (e : Ending) (w' : World) : Prop :=
  ∃ b, e = .returned (.slice (some ⟨b, 0, none⟩) n n) ∧ Has w' b 22 (idxs s n).toArray ∧ w.heap.size ≤ b ∧ Below w.heap.size w w'
theorem list_any (k s n b : Nat) (w : World) (c0 : w.cell? ⟨k, 0, none⟩ = some (.int .u64 (s : Int))) (c1 : w.cell? ⟨k, 1, none⟩ = some (.int .u64 (b : Int))) (hn : s + n = b) (h2 : n ≤ 4096) (h3 : b ≤ 18446744073709551615) (hk : k < w.heap.size) :
    Calls Try.prog 41 #[.pointer (some ⟨k, 0, none⟩)] w (ListOf s n w) := by
  have hc := Lib.hid (count_at k s b n w c0 c1 hn h2 h3)
  have hmk := fun w => run_make_row' (P := Try.prog) 77 22 (.int .u64 0) 8 Try.underlying77 infoU64 rfl .i64 .i64 n (by omega) (by omega) w
  have hn' := Lib.hid hn
  clear hn
  go_enter Try.func41, Try.ntmps41
  go_wp2_with (go_at_call 34; refine hc.out.mono ?_; rintro e w' ⟨rfl, q, rfl⟩)
  have hb0 := Has.new (w.drewN q) 22 (madeCells #[.int .u64 0] n)
  have hB0 : Below w.heap.size w ((w.drewN q).alloc (.cells (madeCells #[.int .u64 0] n) 22)) := (below_draws (Below.refl _ _) q).alloc (Nat.le_refl _) _
  rw [half_none s] at hb0 hB0 ⊢
  generalize (w.drewN q).alloc (.cells (half s n 0) 22) = w1 at hb0 hB0 ⊢
  have hb0' : Hid (Has w1 w.heap.size 22 (half s n 0)) := hb0
  have hB0' := Lib.hid hB0
  have e0 := (hB0.cell (p := ⟨k, 0, none⟩) hk).trans c0
  clear hb0 hB0 c0 c1 hc hmk
  go_loopw [10] (fun i wr => ∃ j : Nat, j ≤ n ∧ i = .int .i64 j ∧ Has wr w.heap.size 22 (half s n j) ∧ Only w.heap.size w1 wr) (fun i _ => n - (intOf i).toNat)
  case atStart => exact ⟨0, Nat.zero_le _, rfl, hb0'.out, Only.refl _ _⟩
  case round =>
    obtain ⟨j, hj, rfl, hh, ho⟩ := hrel
    have hh' := Lib.hid hh
    have ho' := Lib.hid ho
    by_cases hlt : j < n
    · have hne : k ≠ w.heap.size := by omega
      have d0 : wr.cell? ⟨k, 0, none⟩ = some (.int .u64 (s : Int)) := (World.cell?_of_block (ho.block k hne)).trans e0
      obtain ⟨v, cv⟩ : ∃ v, wr.cell? ⟨w.heap.size, j, none⟩ = some v := ⟨(half s n j)[j]'(by rw [half_size hj]; exact hlt), by rw [hh.cell]; exact Array.getElem?_eq_getElem _⟩
      have fv : wr.frozen? ⟨w.heap.size, j, none⟩ = false := hh.free j
      have hsum : (s : Int) + (j : Int) ≤ 18446744073709551615 := by have := hn'.out; omega
      clear hh ho
      go_wp2
      go_roundw
      case rel =>
        have hp := hh'.out.put j (.int .u64 ((s + j : Nat) : Int))
        rw [half_set hlt] at hp
        exact ⟨j + 1, by omega, by go_num, hp, ho'.out.trans (only_setCell _ _ _ _)⟩
      case measure => simp [intOf]; omega
    · obtain rfl : j = n := by omega
      go_wp2
      go_ret
      rw [half_all] at hh
      exact ⟨w.heap.size, rfl, hh, Nat.le_refl _, hB0'.out.trans (ho.below (Nat.le_refl _))⟩
end Go.Proofs.Ytajdlkohnafbeaa
