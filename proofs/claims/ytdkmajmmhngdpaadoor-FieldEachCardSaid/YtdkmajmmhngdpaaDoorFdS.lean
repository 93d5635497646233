import Derived.Test.YtdkmajmmhngdpaaDoorFdR
import Derived.Test.YtdkmajmmhngdpaaDoorFdO
import Derived.Deep.RegionHeld3
namespace Go.Proofs.YtdkmajmmhngdpaaDoor
open Go.RowKit Go.Maps

/-! ## The document's Line, Right -/
theorem cat_mk (a b : List UInt8) : (⟨a.toArray⟩ : ByteArray) ++ ⟨b.toArray⟩ = ⟨(a ++ b).toArray⟩ := by
  apply ByteArray.ext
  simp [ByteArray.data_append]
set_option maxRecDepth 100000 in
theorem refLineF_any (f : Int × List UInt8 × List UInt8) (w : World) (h1 : f.2.1.length ≤ 1000000) (h2 : f.2.2.length ≤ 1000000) : Calls Tryd.prog 31 #[.agg #[.int .i64 f.1, .string ⟨f.2.1.toArray⟩, .string ⟨f.2.2.toArray⟩]] w fun e w' => e = .returned (.string ⟨(refLine f).toArray⟩) ∧ Below w.heap.size w w' := by
  obtain ⟨ki, nm, vl⟩ := f
  simp only at h1 h2 ⊢
  have hr : refLine (ki, nm, vl) = if ki = 2 then 58 :: vl else if vl = [] then nm else nm ++ 58 :: 32 :: vl := rfl
  by_cases k2 : ki = 2
  · subst k2
    rw [if_pos rfl] at hr
    have hr' := Lib.hid hr
    clear hr
    have hcat := cat_mk [58] vl
    simp only [List.cons_append, List.nil_append] at hcat
    go_enter Tryd.func31, Tryd.ntmps31
    go_wp2
    go_ret
    exact ⟨by rw [hr'.out]; rfl, (Below.refl _ _).alloc (Nat.le_refl _) _⟩
  · rw [if_neg k2] at hr
    by_cases hv : vl = []
    · subst hv
      rw [if_pos rfl] at hr
      have hr' := Lib.hid hr
      clear hr
      go_enter Tryd.func31, Tryd.ntmps31
      go_wp2
      go_ret
      exact ⟨by rw [hr'.out]; rfl, (Below.refl _ _).alloc (Nat.le_refl _) _⟩
    · rw [if_neg hv] at hr
      have hie := isE hv
      have hr' := Lib.hid hr
      clear hr
      have hc1 := cat_mk nm [58, 32]
      have hc2 := cat_mk (nm ++ [58, 32]) vl
      rw [show nm ++ [58, 32] ++ vl = nm ++ 58 :: 32 :: vl by simp] at hc2
      obtain ⟨t, ht⟩ : ∃ t, nm ++ [58, 32] = t := ⟨_, rfl⟩
      have hl : t.length ≤ 1000002 := by rw [← ht]; simp; omega
      rw [ht] at hc1 hc2
      clear ht
      go_enter Tryd.func31, Tryd.ntmps31
      go_wp2
      go_ret
      exact ⟨by rw [hr'.out]; rfl, (Below.refl _ _).alloc (Nat.le_refl _) _⟩
theorem refLine_len (f : Int × List UInt8 × List UInt8) (h1 : f.2.1.length ≤ 400000) (h2 : f.2.2.length ≤ 400000) : (refLine f).length ≤ 1000000 := by
  unfold refLine
  split
  · simp; omega
  · split
    · omega
    · simp; omega
set_option maxRecDepth 100000 in
theorem rightF_any (f : Int × List UInt8 × List UInt8) (w : World) (hwf : (Lit.int .i64 f.1).wf = true) (h1 : f.2.1.length ≤ 400000) (h2 : f.2.2.length ≤ 400000) : Calls Tryd.prog 35 #[.agg #[.int .i64 f.1, .string ⟨f.2.1.toArray⟩, .string ⟨f.2.2.toArray⟩]] w fun e w' => e = .returned (.bool (sayF f)) ∧ Below w.heap.size w w' := by
  have hln := refLine_len f h1 h2
  have hfl := fieldF_len (refLine f)
  have hcl := fun W => refLineF_any f W (by omega) (by omega)
  have hco := fun W => refOfF_any (refLine f) W hln
  have heq := fun W => field_equal (fieldF (refLine f)) f (fieldF_wf _) hwf (by omega) (by omega) (by omega) (by omega) W
  rw [right_say] at heq
  have hcl' := Lib.hid hcl
  have hco' := Lib.hid hco
  clear hcl hco hfl hln
  have kB := Has.new w 37 #[.int .i64 f.1, .string ⟨f.2.1.toArray⟩, .string ⟨f.2.2.toArray⟩]
  have hb1 : Below w.heap.size w (w.alloc (.cells #[.int .i64 f.1, .string ⟨f.2.1.toArray⟩, .string ⟨f.2.2.toArray⟩] 37)) := (Below.refl _ _).alloc (Nat.le_refl _) _
  obtain ⟨w1, hw1⟩ : ∃ w1, w.alloc (.cells #[.int .i64 f.1, .string ⟨f.2.1.toArray⟩, .string ⟨f.2.2.toArray⟩] 37) = w1 := ⟨_, rfl⟩
  rw [hw1] at kB hb1
  have hw1' := Lib.hid hw1
  have z1 : w1.heap.size = w.heap.size + 1 := by rw [← hw1]; simp
  have hall := Lib.hid (fun (W : World) (h : Below w1.heap.size w1 W) => show W.cell? ⟨w.heap.size, 0, none⟩ = some (.int .i64 f.1) ∧ W.cell? ⟨w.heap.size, 1, none⟩ = some (.string ⟨f.2.1.toArray⟩) ∧ W.cell? ⟨w.heap.size, 2, none⟩ = some (.string ⟨f.2.2.toArray⟩) from
    have hX := kB.below h (by omega)
    ⟨hX.cell 0, hX.cell 1, hX.cell 2⟩)
  have hb1' := Lib.hid hb1
  have hc0 := Lib.hid (Below.refl w1.heap.size w1).drew
  clear hw1 z1 kB hb1 hwf
  generalize sayF f = Q at heq ⊢
  generalize refLine f = l at heq hcl' hco'
  generalize fieldF l = g at heq hco'
  obtain ⟨ki, nm, vl⟩ := f
  obtain ⟨k2, n2, v2⟩ := g
  simp only [fieldV] at *
  go_enter Tryd.func35, Tryd.ntmps35
  go_upto_region 1 with fail
  rw [show w.alloc (.cells #[.int .i64 ki, .string ⟨nm.toArray⟩, .string ⟨vl.toArray⟩] 37) = w1 from hw1'.out]
  go_region_held3 (fun W => W.cell? ⟨w.heap.size, 0, none⟩ = some (.int .i64 ki) ∧ W.cell? ⟨w.heap.size, 1, none⟩ = some (.string ⟨nm.toArray⟩) ∧ W.cell? ⟨w.heap.size, 2, none⟩ = some (.string ⟨vl.toArray⟩))
    (first
    | with_reducible exact hall.out _ hc3.out
    | with_reducible exact hall.out _ hc2.out
    | with_reducible exact hall.out _ hc0.out
    | fail)
    (first
    | (go_at_call 31; (with_reducible refine Calls.mono (hcl'.out _) ?_); rintro e w2 ⟨rfl, hl2⟩; have hc2 := Lib.hid (hc0.out.trans (hl2.mono hc0.out.size)); clear hl2)
    | (go_at_call 25; (with_reducible refine Calls.mono (hco'.out _) ?_); rintro e w3 ⟨rfl, hl3⟩; have hc3 := Lib.hid (hc2.out.trans (hl3.mono hc2.out.size)); clear hl3)
    | fail)
  go_wp2
  go_ret
  exact ⟨rfl, hb1'.out.trans (hc3.out.mono hb1'.out.size)⟩
end Go.Proofs.YtdkmajmmhngdpaaDoor
