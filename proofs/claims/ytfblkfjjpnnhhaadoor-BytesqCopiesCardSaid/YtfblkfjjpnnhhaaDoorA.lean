import Derived.Test.YtfblkfjjpnnhhaaDoorV
import Derived.Test.YtfblkfjjpnnhhaaDoorRows
import Derived.Lib.Hide
import Derived.WalkKit
import Derived.WalkSpells
import Derived.WalkLawsBesides
import Derived.StillTailTactics
import Derived.BigQuiet
import Derived.Deep.QuietTactic
import Derived.Deep.OwnRows
import Derived.Outline
namespace Go.Proofs.YtfblkfjjpnnhhaaDoor
open Go.RowKit

/-! ## A slice that is used again from its beginning on -/

/-- Where in n places the k-th from s on stands. -/
def idx (n s k : Nat) : Nat := if n ≤ s + k then s + k - n else s + k
/-- The k bytes from s on. -/
def rb (cs : List UInt8) (s k : Nat) : List UInt8 := (List.range k).map fun i => cs.getD (idx cs.length s i) 0
theorem rb_length (cs : List UInt8) (s k : Nat) : (rb cs s k).length = k := by simp [rb]
theorem rb_get {cs : List UInt8} {s k i : Nat} (h : i < k) : (rb cs s k)[i]? = some (cs.getD (idx cs.length s i) 0) := by simp [rb, h]
theorem idx_or (n s k : Nat) : (n ≤ s + k ∧ idx n s k = s + k - n) ∨ (s + k < n ∧ idx n s k = s + k) := by
  unfold idx
  by_cases h : n ≤ s + k
  · exact .inl ⟨h, if_pos h⟩
  · exact .inr ⟨by omega, if_neg h⟩
theorem idx_lt {n s k : Nat} (hs : s < n) (hk : k < n) : idx n s k < n := by have := idx_or n s k; omega
theorem idx_le {n s k : Nat} (hs : s ≤ n) (hk : k ≤ n) : idx n s k ≤ n := by have := idx_or n s k; omega
theorem idx_idx {n s m i : Nat} (hs : s < n) (h : m + i < n) : idx n (idx n s m) i = idx n s (m + i) := by
  have h1 := idx_or n s m
  have h2 := idx_or n (idx n s m) i
  have h3 := idx_or n s (m + i)
  omega
theorem rb_ext {l : List UInt8} {cs : List UInt8} {s k : Nat} (hl : l.length = k) (h : ∀ i, i < k → l[i]? = some (cs.getD (idx cs.length s i) 0)) : l = rb cs s k := by
  apply List.ext_getElem?
  intro i
  by_cases hi : i < k
  · rw [h i hi, rb_get hi]
  · rw [List.getElem?_eq_none (by omega), List.getElem?_eq_none (by rw [rb_length]; omega)]
theorem getD_some {cs : List UInt8} {i : Nat} (h : i < cs.length) : cs[i]? = some (cs.getD i 0) := by
  rw [List.getElem?_eq_getElem h, List.getD, List.getElem?_eq_getElem h]; rfl
/-- The first ones of those that wait. -/
theorem rb_take (cs : List UInt8) (s : Nat) {m k : Nat} (h : m ≤ k) : (rb cs s k).take m = rb cs s m := by
  refine rb_ext (by rw [List.length_take, rb_length]; omega) (fun i hi => ?_)
  rw [List.getElem?_take, if_pos hi, rb_get (by omega)]
/-- Those behind the first ones. -/
theorem rb_drop {cs : List UInt8} {s m k : Nat} (hs : s < cs.length ∨ s = 0) (hm : m ≤ k) (hk : k ≤ cs.length) : (rb cs s k).drop m = rb cs (idx cs.length s m) (k - m) := by
  refine rb_ext (by rw [List.length_drop, rb_length]) (fun i hi => ?_)
  rw [List.getElem?_drop, rb_get (by omega)]
  rcases Nat.lt_or_ge s cs.length with hs' | hs'
  · rw [idx_idx hs' (by omega)]
  · omega
/-- What 'first' lays. -/
theorem rb_first {cs : List UInt8} {s m e : Nat} (hs : s ≤ cs.length) (hm : m ≤ cs.length) (he : e = min (s + m) cs.length) :
    (cs.take e).drop s ++ cs.take (m - (e - s)) = rb cs s m := by
  refine rb_ext (by simp; omega) (fun i hi => ?_)
  have hx := idx_or cs.length s i
  generalize idx cs.length s i = x at hx
  rw [List.getElem?_append]
  simp only [List.length_take, List.length_drop]
  split
  · rw [List.getElem?_drop, List.getElem?_take, if_pos (by omega), getD_some (by omega)]
    congr 2; omega
  · rw [List.getElem?_take, if_pos (by omega), getD_some (by omega)]
    congr 2; omega
theorem splice_two {α : Type} (z a b : List α) (k : Nat) (hk : a.length = k) (hz : z.length = k + b.length) : splice (splice z 0 a) k b = a ++ b := by
  apply List.ext_getElem?
  intro j
  rw [splice_get _ _ _ (by rw [length_splice _ _ _ (by omega)]; omega), splice_get _ _ _ (by omega), List.getElem?_append]
  by_cases h1 : j < k
  · rw [if_neg (by omega), if_pos (by omega), if_pos (by omega)]; rfl
  · rw [if_neg (by omega : ¬ j < a.length)]
    by_cases h2 : j < k + b.length
    · rw [if_pos (by omega)]; congr 1; omega
    · rw [if_neg (by omega), if_neg (by omega), List.getElem?_eq_none (by omega), List.getElem?_eq_none (by omega)]
/-- What 'put' lays. -/
theorem rb_put {cs x : List UInt8} {s k at_ cut : Nat} (hs : s < cs.length ∨ s = 0) (h : k + x.length ≤ cs.length) (hat : at_ = idx cs.length s k) (hcut : cut = min x.length (cs.length - at_)) :
    (splice (splice cs at_ (x.take cut)) 0 (x.drop cut)).length = cs.length ∧ rb (splice (splice cs at_ (x.take cut)) 0 (x.drop cut)) s (k + x.length) = rb cs s k ++ x := by
  have hk := idx_or cs.length s k
  rw [← hat] at hk
  have l1 : (x.take cut).length = cut := by rw [List.length_take]; omega
  have l2 : (x.drop cut).length = x.length - cut := by rw [List.length_drop]
  have e1 : (splice cs at_ (x.take cut)).length = cs.length := length_splice _ _ _ (by omega)
  have e2 : (splice (splice cs at_ (x.take cut)) 0 (x.drop cut)).length = cs.length := by
    rw [length_splice _ _ _ (by omega), e1]
  refine ⟨e2, ?_⟩
  symm
  refine rb_ext (by simp [rb_length]) (fun i hi => ?_)
  rw [e2]
  have hi' := idx_or cs.length s i
  have hlt : idx cs.length s i < cs.length := by omega
  rw [← getD_some (by rw [e2]; exact hlt)]
  rw [splice_get _ _ _ (by omega), splice_get _ _ _ (by omega), l1, l2]
  rw [List.getElem?_append, rb_length]
  by_cases hik : i < k
  · rw [if_pos hik, rb_get hik, if_neg (by omega), if_neg (by omega), getD_some hlt]
  · rw [if_neg hik]
    generalize idx cs.length s i = y at hi' hlt
    by_cases hc : i - k < cut
    · rw [if_neg (by omega), if_pos (by omega), List.getElem?_take, if_pos (by omega)]
      congr 1; omega
    · rw [if_pos (by omega), List.getElem?_drop]
      congr 1; omega

/-! ## The bytes in memory -/

/-- The cells at g's head are a stock: its row lies in block r. -/
structure Stk (W : World) (g r : Nat) (A : Option Addr) (cs : List UInt8) (s k : Nat) : Prop where
  c0 : W.cell? ⟨g, 0, none⟩ = some (.slice A cs.length cs.length)
  c1 : W.cell? ⟨g, 1, none⟩ = some (.int .i64 s)
  c2 : W.cell? ⟨g, 2, none⟩ = some (.int .i64 k)
  row : Row W r 5 A cs
  start : s < cs.length ∨ s = 0
  count : k ≤ cs.length
  small : cs.length ≤ 1048576
theorem Stk.kept {W W' : World} {g r : Nat} {A : Option Addr} {cs : List UInt8} {s k : Nat} (h : Stk W g r A cs s k) (hg : W'.heap[g]? = W.heap[g]?) (hr : 0 < cs.length → W'.heap[r]? = W.heap[r]?) : Stk W' g r A cs s k :=
  ⟨(World.cell?_of_block (a := ⟨g, 0, none⟩) hg).trans h.c0, (World.cell?_of_block (a := ⟨g, 1, none⟩) hg).trans h.c1, (World.cell?_of_block (a := ⟨g, 2, none⟩) hg).trans h.c2, fun hl => ⟨(h.row hl).1, (hr hl).trans (h.row hl).2⟩, h.start, h.count, h.small⟩

theorem Stk.lt {W : World} {g r : Nat} {A : Option Addr} {cs : List UInt8} {s k : Nat} (h : Stk W g r A cs s k) : g < W.heap.size := World.block_lt_of_cell? W _ h.c0
theorem Stk.below {W W' : World} {g r : Nat} {A : Option Addr} {cs : List UInt8} {s k : Nat} (h : Stk W g r A cs s k) (hb : Below W.heap.size W W') : Stk W' g r A cs s k :=
  h.kept (hb.block g h.lt) (fun hl => hb.block r (h.row.lt hl))
theorem ret_int {k : IntKind} {a b : Int} (h : a = b) : Ending.returned (.int k a) = .returned (.int k b) := by rw [h]
theorem index_any (g n : Nat) (A : Option Addr) (c s k : Nat) (w : World) (c0 : w.cell? ⟨g, 0, none⟩ = some (.slice A n c)) (c1 : w.cell? ⟨g, 1, none⟩ = some (.int .i64 (s : Int))) (hb : s + k < 9223372036854775808) (hn : n < 9223372036854775808) :
    Calls Tryd.prog 34 #[.pointer (some ⟨g, 0, none⟩), .int .i64 (k : Int)] w fun e w' => e = .returned (.int .i64 ((idx n s k : Nat) : Int)) ∧ w = w' := by
  generalize hx : idx n s k = x
  have hx' := Lib.hid hx
  clear hx
  by_cases h : n ≤ s + k
  · have hd : ((n : Int) ≤ (s : Int) + (k : Int)) := by omega
    go_enter Tryd.func34, Tryd.ntmps34
    go_wp2
    go_ret
    exact ⟨ret_int (by have := idx_or n s k; have := hx'.out; omega), rfl⟩
  · have hd : ((s : Int) + (k : Int) < (n : Int)) := by omega
    go_enter Tryd.func34, Tryd.ntmps34
    go_wp2
    go_ret
    exact ⟨ret_int (by have := idx_or n s k; have := hx'.out; omega), rfl⟩

theorem info8 : (Tryd.prog.info? 5).map (fun i => (i.zero, i.size, i.bytes)) = some (some (.int .u8 0), 1, 1) := by kernel_rfl
theorem size8 : (Tryd.prog.info? 5).map (·.size) = some 1 := by kernel_rfl
theorem made (n : Nat) : madeCells #[.int .u8 0] n = (byts (List.replicate n 0)).toArray := by
  apply Array.ext
  · simp [madeCells, byts]
  · intro i h1 h2
    simp [madeCells, byts, Nat.mod_one, byt]

set_option maxHeartbeats 400000 in
theorem first_any (g r : Nat) (A : Option Addr) (cs : List UInt8) (s k m : Nat) (w : World) (h : Stk w g r A cs s k) (hm : m ≤ k) :
    Calls Tryd.prog 28 #[.pointer (some ⟨g, 0, none⟩), .int .i64 (m : Int)] w fun e w' => e = .returned (.slice (some ⟨w.heap.size, 0, none⟩) m m) ∧ Has w' w.heap.size 5 (byts (rb cs s m)).toArray ∧ Below w.heap.size w w' ∧ w'.heap.size = w.heap.size + 1 := by
  have hmk := run_make_row' (P := Tryd.prog) 30 5 (.int .u8 0) 1 Tryd.underlying30 info8 rfl .i64 .i64 m (by have := h.count; have := h.small; omega) (by have := h.count; have := h.small; omega) w
  go_enter Tryd.func28, Tryd.ntmps28
  go_wp2
  rw [made]
  have n1 := Has.new w 5 (byts (List.replicate m 0)).toArray
  have hB := (Below.refl w.heap.size w).alloc (Nat.le_refl _) (.cells (byts (List.replicate m 0)).toArray 5)
  obtain ⟨w1, hw1⟩ : ∃ w1, w.alloc (.cells (byts (List.replicate m 0)).toArray 5) = w1 := ⟨_, rfl⟩
  have z1 : w1.heap.size = w.heap.size + 1 := by rw [← hw1]; simp
  rw [hw1] at n1 hB ⊢
  have h1 := h.below hB
  have c0 := h1.c0
  have c1 := h1.c1
  have c2 := h1.c2
  have hrow := h1.row
  have hcnt := h.count
  have hsm := h.small
  have hst := h.start
  have z1' := Lib.hid z1
  have hrow' := Lib.hid hrow
  have h2 := Lib.hid h.lt
  have hrl := Lib.hid (fun hl => h.row.lt (W := w) hl)
  clear hw1 z1 hmk hrow h h1
  go_quiet (fail)
  go_wp2
  · rename_i h
    have hsn : (s : Int) ≤ ((cs.length : Nat) : Int) := by omega
    have hen : ((cs.length : Nat) : Int) ≤ (cs.length : Int) := by omega
    have hem : cs.length = min (s + m) cs.length := by omega
    have hes : cs.length - s ≤ m := by omega
    have hsn' : s ≤ cs.length := by omega
    have hen' : cs.length ≤ cs.length := by omega
    have hem' := Lib.hid hem
    clear hem
    refine wp_region_still_tail 12 (by kernel_rfl) (by kernel_rfl) ?_
    simp only [List.take_succ_cons, List.take_zero, List.drop_succ_cons, List.drop_zero]
    change wpStill _ _ (World.drew _) (fun a' => wpList _ _ _ _ a' (World.drew _)) _ _
    have d0 : (w1.drewN nq).drew.cell? ⟨g, 0, none⟩ = _ := c0
    have d1 : (w1.drewN nq).drew.cell? ⟨g, 1, none⟩ = _ := c1
    have m1 : Has (w1.drewN nq).drew w.heap.size 5 (byts (List.replicate m 0)).toArray := n1
    have row1 : Row (w1.drewN nq).drew r 5 A cs := hrow'.out
    have hB1 : Below w.heap.size w (w1.drewN nq).drew := (below_draws hB nq).drew
    have z2 : (w1.drewN nq).drew.heap.size = w.heap.size + 1 := z1'.out
    generalize (w1.drewN nq).drew = w2 at d0 d1 m1 row1 hB1 z2 ⊢
    have z2' := Lib.hid z2
    have row1' := Lib.hid row1
    clear z2 row1 c0 c1 c2 n1 hB z1' hrow'
    repeat still_step
    refine wpStill_nil ?_
    have hx1 : (List.drop s (List.take (cs.length) cs)).length = cs.length - s := by simp <;> omega
    have hx1' := Lib.hid hx1
    clear hx1
    refine wpList_copy_bytes rfl (.tmp 22) (.tmp 33) 30 30 rfl 5 Tryd.underlying30 size8 _ _ _ _ _ _ rfl rfl w.heap.size 0 (List.replicate m 0) 5 m1 ((cs.take (cs.length)).drop s)
      (by rw [hx1'.out]; exact (Nat.min_eq_left hes).symm) (fun _ => rfl) (· = r) ((row1'.out.rd.take _).drop s (cs.length) (by rw [List.length_take]; omega)) (by rw [hx1'.out, List.length_replicate]; omega) ?_
    intro w3 m3 o3
    rw [hx1'.out]
    generalize (if cs.length = s then A else Option.map (fun x => x.add s) A) = A2
    generalize hE : cs.length - s = d at hx1' m3 hes ⊢
    have hE' := Lib.hid hE
    have hdm : (d : Int) ≤ (m : Int) := by omega
    clear hE
    have gne : g ≠ w.heap.size := fun h => by have := h2.out; omega
    have rne : 0 < cs.length → r ≠ w.heap.size := fun hl h => by have := hrl.out hl; omega
    have d0' := (World.cell?_of_block (a := ⟨g, 0, none⟩) (o3.block g gne)).trans d0
    have row3 : Row w3 r 5 A cs := fun hl => ⟨(row1'.out hl).1, o3.has (row1'.out hl).2 (rne hl)⟩
    have hB3 : Below w.heap.size w w3 := hB1.trans (o3.below (Nat.le_refl _))
    have z3 := Lib.hid (o3.size.trans z2'.out)
    have m3' := Lib.hid m3
    have row3' := Lib.hid row3
    clear d0 d1 m1 hB1 z2' row1' o3 w2 m3 row3 rne
    go_wp2
    refine wp_region_still_tail 7 (by kernel_rfl) (by kernel_rfl) ?_
    simp only [List.take_succ_cons, List.take_zero, List.drop_succ_cons, List.drop_zero]
    change wpStill _ _ (World.drew _) (fun a' => wpList _ _ _ _ a' (World.drew _)) _ _
    have d0 : w3.drew.cell? ⟨g, 0, none⟩ = _ := d0'
    have m1 : Hid (Has w3.drew w.heap.size 5 (byts (splice (List.replicate m 0) 0 (List.drop s (List.take (cs.length) cs)))).toArray) := m3'.out
    have row1 : Hid (Row w3.drew r 5 A cs) := row3'.out
    have hB1 : Below w.heap.size w w3.drew := hB3.drew
    have z2 : Hid (w3.drew.heap.size = w.heap.size + 1) := z3.out
    generalize w3.drew = w4 at d0 m1 row1 hB1 z2 ⊢
    clear d0' m3' row3' hB3 z3
    repeat still_step
    refine wpStill_nil ?_
    have hx2 : Hid ((cs.take (m - d)).length = m - d) := by show _ = _; rw [List.length_take]; have := hE'.out; omega
    have hlen : Hid ((splice (List.replicate m 0) 0 (List.drop s (List.take (cs.length) cs))).length = m) := by show _ = _; rw [length_splice _ _ _ (by rw [hx1'.out, List.length_replicate]; omega), List.length_replicate]
    refine wpList_copy_bytes rfl (.tmp 37) (.tmp 41) 30 30 rfl 5 Tryd.underlying30 size8 _ _ _ _ _ _ rfl rfl w.heap.size d _ 5 m1.out (cs.take (m - d))
      (by rw [hx2.out]; exact (Nat.min_eq_right (by omega)).symm) (fun h0 => by rw [if_neg (by rw [hx2.out] at h0; omega)]) (· = r) (row1.out.rd.take _) (by rw [hx2.out, hlen.out]; omega) ?_
    intro w5 m5 o5
    have hB5 : Below w.heap.size w w5 := hB1.trans (o5.below (Nat.le_refl _))
    have z5 := Lib.hid (o5.size.trans z2.out)
    have m5' := Lib.hid m5
    generalize (if m = d then some (⟨w.heap.size, 0, none⟩ : Addr) else _) = A3
    clear m5 o5 d0 m1 row1 hB1 z2 w4
    go_wp2
    go_ret
    refine ⟨rfl, ?_, hB5, z5.out⟩
    have := m5'.out
    rw [splice_two _ _ _ d hx1'.out (by rw [hx2.out, List.length_replicate]; omega), ← hE'.out, rb_first (by omega) (by omega) hem'.out] at this
    exact this
  · rename_i h
    obtain ⟨e, he⟩ : ∃ e : Nat, e = s + m := ⟨_, rfl⟩
    rw [show (s : Int) + (m : Int) = (e : Int) from by omega]
    have hsn : (s : Int) ≤ ((e : Nat) : Int) := by omega
    have hen : ((e : Nat) : Int) ≤ (cs.length : Int) := by omega
    have hem : e = min (s + m) cs.length := by omega
    have hes : e - s ≤ m := by omega
    have hsn' : s ≤ e := by omega
    have hen' : e ≤ cs.length := by omega
    have hem' := Lib.hid hem
    clear hem he
    refine wp_region_still_tail 12 (by kernel_rfl) (by kernel_rfl) ?_
    simp only [List.take_succ_cons, List.take_zero, List.drop_succ_cons, List.drop_zero]
    change wpStill _ _ (World.drew _) (fun a' => wpList _ _ _ _ a' (World.drew _)) _ _
    have d0 : (w1.drewN nq).drew.cell? ⟨g, 0, none⟩ = _ := c0
    have d1 : (w1.drewN nq).drew.cell? ⟨g, 1, none⟩ = _ := c1
    have m1 : Has (w1.drewN nq).drew w.heap.size 5 (byts (List.replicate m 0)).toArray := n1
    have row1 : Row (w1.drewN nq).drew r 5 A cs := hrow'.out
    have hB1 : Below w.heap.size w (w1.drewN nq).drew := (below_draws hB nq).drew
    have z2 : (w1.drewN nq).drew.heap.size = w.heap.size + 1 := z1'.out
    generalize (w1.drewN nq).drew = w2 at d0 d1 m1 row1 hB1 z2 ⊢
    have z2' := Lib.hid z2
    have row1' := Lib.hid row1
    clear z2 row1 c0 c1 c2 n1 hB z1' hrow'
    repeat still_step
    refine wpStill_nil ?_
    have hx1 : (List.drop s (List.take (e) cs)).length = e - s := by simp <;> omega
    have hx1' := Lib.hid hx1
    clear hx1
    refine wpList_copy_bytes rfl (.tmp 22) (.tmp 33) 30 30 rfl 5 Tryd.underlying30 size8 _ _ _ _ _ _ rfl rfl w.heap.size 0 (List.replicate m 0) 5 m1 ((cs.take (e)).drop s)
      (by rw [hx1'.out]; exact (Nat.min_eq_left hes).symm) (fun _ => rfl) (· = r) ((row1'.out.rd.take _).drop s (e) (by rw [List.length_take]; omega)) (by rw [hx1'.out, List.length_replicate]; omega) ?_
    intro w3 m3 o3
    rw [hx1'.out]
    generalize (if e = s then A else Option.map (fun x => x.add s) A) = A2
    generalize hE : e - s = d at hx1' m3 hes ⊢
    have hE' := Lib.hid hE
    have hdm : (d : Int) ≤ (m : Int) := by omega
    clear hE
    have gne : g ≠ w.heap.size := fun h => by have := h2.out; omega
    have rne : 0 < cs.length → r ≠ w.heap.size := fun hl h => by have := hrl.out hl; omega
    have d0' := (World.cell?_of_block (a := ⟨g, 0, none⟩) (o3.block g gne)).trans d0
    have row3 : Row w3 r 5 A cs := fun hl => ⟨(row1'.out hl).1, o3.has (row1'.out hl).2 (rne hl)⟩
    have hB3 : Below w.heap.size w w3 := hB1.trans (o3.below (Nat.le_refl _))
    have z3 := Lib.hid (o3.size.trans z2'.out)
    have m3' := Lib.hid m3
    have row3' := Lib.hid row3
    clear d0 d1 m1 hB1 z2' row1' o3 w2 m3 row3 rne
    go_wp2
    refine wp_region_still_tail 7 (by kernel_rfl) (by kernel_rfl) ?_
    simp only [List.take_succ_cons, List.take_zero, List.drop_succ_cons, List.drop_zero]
    change wpStill _ _ (World.drew _) (fun a' => wpList _ _ _ _ a' (World.drew _)) _ _
    have d0 : w3.drew.cell? ⟨g, 0, none⟩ = _ := d0'
    have m1 : Hid (Has w3.drew w.heap.size 5 (byts (splice (List.replicate m 0) 0 (List.drop s (List.take (e) cs)))).toArray) := m3'.out
    have row1 : Hid (Row w3.drew r 5 A cs) := row3'.out
    have hB1 : Below w.heap.size w w3.drew := hB3.drew
    have z2 : Hid (w3.drew.heap.size = w.heap.size + 1) := z3.out
    generalize w3.drew = w4 at d0 m1 row1 hB1 z2 ⊢
    clear d0' m3' row3' hB3 z3
    repeat still_step
    refine wpStill_nil ?_
    have hx2 : Hid ((cs.take (m - d)).length = m - d) := by show _ = _; rw [List.length_take]; have := hE'.out; omega
    have hlen : Hid ((splice (List.replicate m 0) 0 (List.drop s (List.take (e) cs))).length = m) := by show _ = _; rw [length_splice _ _ _ (by rw [hx1'.out, List.length_replicate]; omega), List.length_replicate]
    refine wpList_copy_bytes rfl (.tmp 37) (.tmp 41) 30 30 rfl 5 Tryd.underlying30 size8 _ _ _ _ _ _ rfl rfl w.heap.size d _ 5 m1.out (cs.take (m - d))
      (by rw [hx2.out]; exact (Nat.min_eq_right (by omega)).symm) (fun h0 => by rw [if_neg (by rw [hx2.out] at h0; omega)]) (· = r) (row1.out.rd.take _) (by rw [hx2.out, hlen.out]; omega) ?_
    intro w5 m5 o5
    have hB5 : Below w.heap.size w w5 := hB1.trans (o5.below (Nat.le_refl _))
    have z5 := Lib.hid (o5.size.trans z2.out)
    have m5' := Lib.hid m5
    generalize (if m = d then some (⟨w.heap.size, 0, none⟩ : Addr) else _) = A3
    clear m5 o5 d0 m1 row1 hB1 z2 w4
    go_wp2
    go_ret
    refine ⟨rfl, ?_, hB5, z5.out⟩
    have := m5'.out
    rw [splice_two _ _ _ d hx1'.out (by rw [hx2.out, List.length_replicate]; omega), ← hE'.out, rb_first (by omega) (by omega) hem'.out] at this
    exact this
end Go.Proofs.YtfblkfjjpnnhhaaDoor
