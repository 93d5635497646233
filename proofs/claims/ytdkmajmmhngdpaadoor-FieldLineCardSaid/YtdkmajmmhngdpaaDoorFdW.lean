import Derived.Test.YtdkmajmmhngdpaaDoorFdV
namespace Go.Proofs.YtdkmajmmhngdpaaDoor
open Go.RowKit Go.Maps

/-! ## The law of Line -/
set_option maxRecDepth 100000 in
set_option maxHeartbeats 4000000 in
theorem lawLineF (f : Int × List UInt8 × List UInt8) (w : World) (hwf : (Lit.int .i64 f.1).wf = true) (hN : NamesT w) (hM : MaxT w) (hT : Tab w) (hl : f.2.1.length + f.2.2.length ≤ 600) : Calls Tryd.prog 6 #[fieldV f] w fun e w' => e = .returned (.bool true) ∧ Below w.heap.size w w' := by
  have hrt := Lib.hid (fun W (hb : Below w.heap.size w W) => carry w W hb (retryF_any f W hwf (by omega) (by omega) (hN.below hb) (hT.below hb)))
  have hrr := Lib.hid (fun W (hb : Below w.heap.size w W) => carry w W hb (refRetryF_any f W hwf (by omega) (by omega)))
  have hct := Lib.hid (fun W (hb : Below w.heap.size w W) => carry w W hb (countsF_any f W hwf (by omega) (by omega) (hN.below hb) (hT.below hb)))
  have hrc := Lib.hid (fun W (hb : Below w.heap.size w W) => carry w W hb (refCountsF_any f W hwf (by omega) (by omega)))
  have hla := Lib.hid (fun W (hb : Below w.heap.size w W) => carry w W hb (lineF_any f W (by omega) (by omega) (hN.below hb)))
  have hrn := Lib.hid (fun W (hb : Below w.heap.size w W) => carry w W hb (refLineF_any f W (by omega) (by omega)))
  have hri := Lib.hid (fun W (hb : Below w.heap.size w W) => carry w W hb (rightF_any f W hwf (by omega) (by omega)))
  have hna := Lib.hid (fun W (hb : Below w.heap.size w W) => nameF_any f.1 W (hN.below hb))
  have hnr := Lib.hid (fun W (hb : Below w.heap.size w W) => carry w W hb (refNameF_any f.1 W))
  have hwk := Lib.hid (fun W (hb : Below w.heap.size w W) => carry w W hb (worksF_any W (hN.below hb) (hM.below hb) (hT.below hb)))
  have hlo : sayF f = true → lineOf f = (refLine f, 0) := fun h => by unfold lineOf; rw [if_pos h, refLine_say h]
  have hln : sayF f = false → lineOf f = ([], 2) := fun h => by unfold lineOf; rw [if_neg (by rw [h]; decide)]
  clear hN hM hT hwf
  generalize retryF f = rt at *
  generalize countsF f = ct at *
  generalize sayF f = sy at *
  generalize refLine f = rl at *
  generalize lineOf f = lo at *
  generalize hnm : nameF f.1 = nm at *
  clear hnm
  obtain ⟨k1, n1, v1⟩ := f
  simp only [fieldV] at hrt hrr hct hrc hla hrn hri hna hnr hl ⊢
  have hlI : ((n1.length : Int) + (v1.length : Int)) ≤ 600 := by omega
  have kX := Has.new w 37 #[.int .i64 k1, .string ⟨n1.toArray⟩, .string ⟨v1.toArray⟩]
  have hb1 : Below w.heap.size w (w.alloc (.cells #[.int .i64 k1, .string ⟨n1.toArray⟩, .string ⟨v1.toArray⟩] 37)) := (Below.refl _ _).alloc (Nat.le_refl _) _
  obtain ⟨w1, hw1⟩ : ∃ w1, w.alloc (.cells #[.int .i64 k1, .string ⟨n1.toArray⟩, .string ⟨v1.toArray⟩] 37) = w1 := ⟨_, rfl⟩
  rw [hw1] at kX hb1
  have hw1' := Lib.hid hw1
  have hb1' := Lib.hid hb1
  have z1 : w1.heap.size = w.heap.size + 1 := by rw [← hw1]; simp
  have hall := Lib.hid (fun (W : World) (h : Below w1.heap.size w1 W) => show W.cell? ⟨w.heap.size, 0, none⟩ = some (.int .i64 k1) ∧ W.cell? ⟨w.heap.size, 1, none⟩ = some (.string ⟨n1.toArray⟩) ∧ W.cell? ⟨w.heap.size, 2, none⟩ = some (.string ⟨v1.toArray⟩) from
    have hX := kX.below h (by omega)
    ⟨hX.cell 0, hX.cell 1, hX.cell 2⟩)
  clear hw1 hb1 kX z1
  go_enter Tryd.func6, Tryd.ntmps6
  go_upto_region 3 with fail
  rw [show w.alloc (.cells #[.int .i64 k1, .string ⟨n1.toArray⟩, .string ⟨v1.toArray⟩] 37) = w1 from hw1'.out]
  obtain ⟨y0, y1, y2⟩ := hall.out w1 (Below.refl _ _)
  go_wp2_with fail
  refine (hla.out w1 hb1'.out).mono ?_
  rintro e w2 ⟨rfl, hl2, hb2⟩
  have hb2' := Lib.hid hb2
  have hl2' := Lib.hid hl2
  clear hb2 hl2 y0 y1 y2
  obtain ⟨y0, y1, y2⟩ := hall.out w2 hl2'.out
  go_wp2_with fail
  refine (hrt.out w2 hb2'.out).mono ?_
  rintro e w3 ⟨rfl, hl3, hb3⟩
  have hb3' := Lib.hid hb3
  have hl3' := Lib.hid (below_chain hl2'.out hl3)
  clear hb3 hl3 y0 y1 y2
  obtain ⟨y0, y1, y2⟩ := hall.out w3 hl3'.out
  go_upto_region 6 with (go_at_call 27; (with_reducible refine Calls.mono (hrr.out _ hb3'.out) ?_); rintro e w4 ⟨rfl, hl4, hb4⟩; have hb4' := Lib.hid hb4; have hl4' := Lib.hid (below_chain hl3'.out hl4); clear hb4 hl4)
  have hc0 := Lib.hid hl4'.out.drew
  have hd0 := Lib.hid hb4'.out.drew
  clear y0 y1 y2
  go_region_held3 (fun W => W.cell? ⟨w.heap.size, 0, none⟩ = some (.int .i64 k1) ∧ W.cell? ⟨w.heap.size, 1, none⟩ = some (.string ⟨n1.toArray⟩) ∧ W.cell? ⟨w.heap.size, 2, none⟩ = some (.string ⟨v1.toArray⟩))
      (first
      | with_reducible exact hall.out _ hc3.out
      | with_reducible exact hall.out _ hc2.out
      | with_reducible exact hall.out _ hc1.out
      | with_reducible exact hall.out _ hc0.out
      | fail)
      (first
      | (go_at_call 33; (with_reducible refine Calls.mono (hna.out _ hd1.out) ?_); rintro e wn ⟨rfl, rfl⟩)
      | (go_at_call 33; (with_reducible refine Calls.mono (hna.out _ hd0.out) ?_); rintro e wn ⟨rfl, rfl⟩)
      | (go_at_call 34; (with_reducible refine Calls.mono (hnr.out _ hd0.out) ?_); rintro e w8 ⟨rfl, hl8, hb8⟩; have hc1 := Lib.hid (hc0.out.trans (hl8.mono hc0.out.size)); have hd1 := Lib.hid hb8; clear hl8 hb8)
      | (go_at_call 29; (with_reducible refine Calls.mono (hct.out _ hd2.out) ?_); rintro e w8 ⟨rfl, hl8, hb8⟩; have hc3 := Lib.hid (hc2.out.trans (hl8.mono hc2.out.size)); have hd3 := Lib.hid hb8; clear hl8 hb8)
      | (go_at_call 29; (with_reducible refine Calls.mono (hct.out _ hd1.out) ?_); rintro e w8 ⟨rfl, hl8, hb8⟩; have hc2 := Lib.hid (hc1.out.trans (hl8.mono hc1.out.size)); have hd2 := Lib.hid hb8; clear hl8 hb8)
      | (go_at_call 30; (with_reducible refine Calls.mono (hrc.out _ hd2.out) ?_); rintro e w8 ⟨rfl, hl8, hb8⟩; have hc3 := Lib.hid (hc2.out.trans (hl8.mono hc2.out.size)); have hd3 := Lib.hid hb8; clear hl8 hb8)
      | (go_at_call 30; (with_reducible refine Calls.mono (hrc.out _ hd1.out) ?_); rintro e w8 ⟨rfl, hl8, hb8⟩; have hc2 := Lib.hid (hc1.out.trans (hl8.mono hc1.out.size)); have hd2 := Lib.hid hb8; clear hl8 hb8)
      | fail)
  have hc3' := hc3
  have hd3' := hd3
  obtain ⟨y0, y1, y2⟩ := hall.out _ hc3'.out
  go_wp2_with fail
  refine (hri.out _ hd3'.out).mono ?_
  rintro e w9 ⟨rfl, hl9, hb9⟩
  have hb9' := Lib.hid hb9
  have hl9' := Lib.hid (below_chain hc3'.out hl9)
  clear hb9 hl9 y0 y1 y2
  cases sy with
  | true =>
    obtain rfl : lo = (rl, 0) := hlo rfl
    clear hlo hln
    obtain ⟨y0, y1, y2⟩ := hall.out _ hl9'.out
    go_wp2_with (first
      | (go_at_call 31; (with_reducible refine Calls.mono (hrn.out _ hb9'.out) ?_); rintro e w10 ⟨rfl, hl10, hb10⟩; have hb10' := Lib.hid hb10; clear hb10 hl10)
      | (go_at_call 32; (with_reducible refine Calls.mono (numFd_any _ _) ?_); rintro e wn ⟨rfl, rfl⟩)
      | (go_at_call 23; (with_reducible refine Calls.mono (hwk.out _ hb10'.out) ?_); rintro e w11 ⟨rfl, hl11, hb11⟩))
    go_ret
    exact ⟨rfl, hb11⟩
  | false =>
    obtain rfl : lo = ([], 2) := hln rfl
    clear hlo hln
    obtain ⟨y0, y1, y2⟩ := hall.out _ hl9'.out
    go_wp2_with (first
      | (go_at_call 32; (with_reducible refine Calls.mono (numFd_any _ _) ?_); rintro e wn ⟨rfl, rfl⟩)
      | (go_at_call 23; (with_reducible refine Calls.mono (hwk.out _ hb9'.out) ?_); rintro e w11 ⟨rfl, hl11, hb11⟩))
    go_ret
    exact ⟨rfl, hb11⟩
set_option maxRecDepth 100000 in
theorem lineF_works (f : Int × List UInt8 × List UInt8) (w : World) (hN : NamesT w) (hM : MaxT w) (hT : Tab w) (h1 : f.2.1.length ≤ 140737488351232) (h2 : f.2.2.length ≤ 140737488351232) (h : 600 < f.2.1.length + f.2.2.length) : Calls Tryd.prog 6 #[fieldV f] w fun e w' => e = .returned (.bool true) ∧ Below w.heap.size w w' := by
  obtain ⟨k1, n1, v1⟩ := f
  simp only [fieldV] at h h1 h2 ⊢
  have hb1 : Below w.heap.size w (w.alloc (.cells #[.int .i64 k1, .string ⟨n1.toArray⟩, .string ⟨v1.toArray⟩] 37)) := (Below.refl _ _).alloc (Nat.le_refl _) _
  have hwk := Lib.hid (carry w _ hb1 (worksF_any _ (hN.below hb1) (hM.below hb1) (hT.below hb1)))
  have h1' : (600 : Int) < (n1.length : Int) + (v1.length : Int) := by omega
  clear hN hM hT h hb1
  go_enter Tryd.func6, Tryd.ntmps6
  go_wp2_with (go_at_call 23; (with_reducible refine Calls.mono hwk.out ?_); rintro e w1 ⟨rfl, hl1, hb1⟩)
  go_ret
  exact ⟨rfl, hb1⟩
end Go.Proofs.YtdkmajmmhngdpaaDoor
