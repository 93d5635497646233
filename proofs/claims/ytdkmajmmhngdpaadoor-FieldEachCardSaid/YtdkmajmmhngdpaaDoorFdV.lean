import Derived.Test.YtdkmajmmhngdpaaDoorFdU
import Derived.Test.YtdkmajmmhngdpaaDoorFdP
namespace Go.Proofs.YtdkmajmmhngdpaaDoor
open Go.RowKit Go.Maps

/-! ## The law of Of -/
def aggF (f : Int × List UInt8 × List UInt8) : Value := .agg #[.int .i64 f.1, .string ⟨f.2.1.toArray⟩, .string ⟨f.2.2.toArray⟩]
theorem carry {P : Program} {k : FuncId} {args : Array Value} {v : Value} (w0 w : World) (hb : Below w0.heap.size w0 w) (h : Calls P k args w fun e w' => e = .returned v ∧ Below w.heap.size w w') : Calls P k args w fun e w' => e = .returned v ∧ Below w.heap.size w w' ∧ Below w0.heap.size w0 w' := by
  refine h.mono ?_
  rintro e w' ⟨rfl, h⟩
  exact ⟨rfl, h, hb.trans (h.mono hb.size)⟩
set_option maxRecDepth 100000 in
set_option maxHeartbeats 4000000 in
theorem lawOfF (l : List UInt8) (w : World) (hN : NamesT w) (hM : MaxT w) (hT : Tab w) (hl : l.length ≤ 300) : Calls Tryd.prog 5 #[.string ⟨l.toArray⟩] w fun e w' => e = .returned (.bool true) ∧ Below w.heap.size w w' := by
  have hs := sayF_fieldF l
  have hbk := fieldF_lineF _ hs
  have hwf := fieldF_wf l
  have hrl := refLine_say hs
  have hof := Lib.hid (of_law l w w (Below.refl _ _) hN hM (by omega))
  have hro := Lib.hid (fun W (hb : Below w.heap.size w W) => carry w W hb (refOfF_any l W (by omega)))
  have la := fieldF_len l
  have hrt := Lib.hid (fun W (hb : Below w.heap.size w W) => carry w W hb (retryF_any (fieldF l) W hwf (by omega) (by omega) (hN.below hb) (hT.below hb)))
  have hrr := Lib.hid (fun W (hb : Below w.heap.size w W) => carry w W hb (refRetryF_any (fieldF l) W hwf (by omega) (by omega)))
  have hct := Lib.hid (fun W (hb : Below w.heap.size w W) => carry w W hb (countsF_any (fieldF l) W hwf (by omega) (by omega) (hN.below hb) (hT.below hb)))
  have hrc := Lib.hid (fun W (hb : Below w.heap.size w W) => carry w W hb (refCountsF_any (fieldF l) W hwf (by omega) (by omega)))
  have hla := Lib.hid (fun W hb' => line_law (fieldF l) w W hb' hN (by omega) (by omega) hs)
  have hrn := Lib.hid (fun W (hb : Below w.heap.size w W) => carry w W hb (refLineF_any (fieldF l) W (by omega) (by omega)))
  have lsa := lineF_len (fieldF l) 300 (by omega) (by omega)
  have hga := Lib.hid (fun W hb' => of_law (lineF (fieldF l)) w W hb' hN hM (by omega))
  have ea := fun W => field_equal (fieldF l) (fieldF l) (fieldF_wf l) (fieldF_wf l) (by omega) (by omega) (by omega) (by omega) W
  have hwk := Lib.hid (fun W (hb : Below w.heap.size w W) => carry w W hb (worksF_any W (hN.below hb) (hM.below hb) (hT.below hb)))
  rw [hbk] at hga
  rw [hrl] at hrn
  clear hbk hs la lsa hN hM hT hwf hrl
  generalize lineF (fieldF l) = s at *
  generalize retryF (fieldF l) = rt at *
  generalize countsF (fieldF l) = ct at *
  generalize fieldF l = f at *
  obtain ⟨k1, n1, v1⟩ := f
  simp only [fieldV, decide_true] at hof hro hrt hrr hct hrc hla hrn hga ea
  go_enter Tryd.func5, Tryd.ntmps5
  go_wp2_with fail
  refine hof.out.mono ?_
  rintro e w1 ⟨rfl, -, hb1⟩
  have hb1' := Lib.hid hb1; clear hb1
  go_wp2_with fail
  refine (hro.out w1 hb1'.out).mono ?_
  rintro e w2 ⟨rfl, -, hb2⟩
  have hb2' := Lib.hid hb2; clear hb2
  go_wp2_with fail
  have kX := (Has.new w2 37 #[.int .i64 k1, .string ⟨n1.toArray⟩, .string ⟨v1.toArray⟩]).alloc (.cells #[.int .i64 k1, .string ⟨n1.toArray⟩, .string ⟨v1.toArray⟩] 37)
  have kY := Has.new (w2.alloc (.cells #[.int .i64 k1, .string ⟨n1.toArray⟩, .string ⟨v1.toArray⟩] 37)) 37 #[.int .i64 k1, .string ⟨n1.toArray⟩, .string ⟨v1.toArray⟩]
  have hb3 : Below w.heap.size w ((w2.alloc (.cells #[.int .i64 k1, .string ⟨n1.toArray⟩, .string ⟨v1.toArray⟩] 37)).alloc (.cells #[.int .i64 k1, .string ⟨n1.toArray⟩, .string ⟨v1.toArray⟩] 37)) := (hb2'.out.alloc hb2'.out.size _).alloc (by have := hb2'.out.size; simp; omega) _
  simp only [World.size_alloc] at kY
  obtain ⟨w3, hw3⟩ : ∃ w3, ((w2.alloc (.cells #[.int .i64 k1, .string ⟨n1.toArray⟩, .string ⟨v1.toArray⟩] 37)).alloc (.cells #[.int .i64 k1, .string ⟨n1.toArray⟩, .string ⟨v1.toArray⟩] 37)) = w3 := ⟨_, rfl⟩
  rw [hw3] at kX kY hb3
  rw [show ((w2.alloc (.cells #[.int .i64 k1, .string ⟨n1.toArray⟩, .string ⟨v1.toArray⟩] 37)).alloc (.cells #[.int .i64 k1, .string ⟨n1.toArray⟩, .string ⟨v1.toArray⟩] 37)) = w3 from hw3]
  have hb3' := Lib.hid hb3
  have z3 : w3.heap.size = w2.heap.size + 1 + 1 := by rw [← hw3]; simp
  clear hw3 hb3
  refine (hrt.out w3 hb3'.out).mono ?_
  rintro e w4 ⟨rfl, hl4, hb4⟩
  have hb4' := Lib.hid hb4
  have y0 := (kY.below hl4 (by omega)).cell 0
  have y1 := (kY.below hl4 (by omega)).cell 1
  have y2 := (kY.below hl4 (by omega)).cell 2
  have hl4' := Lib.hid hl4
  clear hb4 hl4
  go_wp2_with fail
  refine (hrr.out w4 hb4'.out).mono ?_
  rintro e w5 ⟨rfl, hl5, hb5⟩
  have hb5' := Lib.hid hb5
  have hl5' := Lib.hid (below_chain hl4'.out hl5)
  clear y0 y1 y2
  have y0 := (kY.below hl5'.out (by omega)).cell 0
  have y1 := (kY.below hl5'.out (by omega)).cell 1
  have y2 := (kY.below hl5'.out (by omega)).cell 2
  clear hb5 hl5
  go_upto_region 7 with (go_at_call 28; (with_reducible refine Calls.mono (hla.out _ hb5'.out) ?_); rintro e w6 ⟨rfl, hl6, hb6⟩; have hb6' := Lib.hid hb6; have hl6' := Lib.hid (below_chain hl5'.out hl6); clear hb6 hl6)
  have hall := Lib.hid (fun (W : World) (h : Below w6.heap.size w6 W) => show W.cell? ⟨w2.heap.size, 0, none⟩ = some (.int .i64 k1) ∧ W.cell? ⟨w2.heap.size, 1, none⟩ = some (.string ⟨n1.toArray⟩) ∧ W.cell? ⟨w2.heap.size, 2, none⟩ = some (.string ⟨v1.toArray⟩) ∧ W.cell? ⟨w2.heap.size + 1, 0, none⟩ = some (.int .i64 k1) ∧ W.cell? ⟨w2.heap.size + 1, 1, none⟩ = some (.string ⟨n1.toArray⟩) ∧ W.cell? ⟨w2.heap.size + 1, 2, none⟩ = some (.string ⟨v1.toArray⟩) from
    have hx := below_chain hl6'.out h
    have hX := kX.below hx (by omega)
    have hY := kY.below hx (by omega)
    ⟨hX.cell 0, hX.cell 1, hX.cell 2, hY.cell 0, hY.cell 1, hY.cell 2⟩)
  have hc0 := Lib.hid (Below.refl w6.heap.size w6).drew
  have hd0 := Lib.hid hb6'.out.drew
  clear kX kY hl4' hl5' hl6' hla hof hro hrt hrr y0 y1 y2 z3
  go_region_held3 (fun W => W.cell? ⟨w2.heap.size, 0, none⟩ = some (.int .i64 k1) ∧ W.cell? ⟨w2.heap.size, 1, none⟩ = some (.string ⟨n1.toArray⟩) ∧ W.cell? ⟨w2.heap.size, 2, none⟩ = some (.string ⟨v1.toArray⟩) ∧ W.cell? ⟨w2.heap.size + 1, 0, none⟩ = some (.int .i64 k1) ∧ W.cell? ⟨w2.heap.size + 1, 1, none⟩ = some (.string ⟨n1.toArray⟩) ∧ W.cell? ⟨w2.heap.size + 1, 2, none⟩ = some (.string ⟨v1.toArray⟩))
      (first
      | with_reducible exact hall.out _ hc5.out
      | with_reducible exact hall.out _ hc4.out
      | with_reducible exact hall.out _ hc3.out
      | with_reducible exact hall.out _ hc2.out
      | with_reducible exact hall.out _ hc1.out
      | with_reducible exact hall.out _ hc0.out
      | fail)
      (first
      | (go_at_call 32; (with_reducible refine Calls.mono (numFd_any _ _) ?_); rintro e wn ⟨rfl, rfl⟩)
      | (go_at_call 29; (with_reducible refine Calls.mono (hct.out _ hd1.out) ?_); rintro e w8 ⟨rfl, hl8, hb8⟩; have hc2 := Lib.hid (hc1.out.trans (hl8.mono hc1.out.size)); have hd2 := Lib.hid hb8; clear hl8 hb8)
      | (go_at_call 29; (with_reducible refine Calls.mono (hct.out _ hd0.out) ?_); rintro e w8 ⟨rfl, hl8, hb8⟩; have hc1 := Lib.hid (hc0.out.trans (hl8.mono hc0.out.size)); have hd1 := Lib.hid hb8; clear hl8 hb8)
      | (go_at_call 30; (with_reducible refine Calls.mono (hrc.out _ hd1.out) ?_); rintro e w8 ⟨rfl, hl8, hb8⟩; have hc2 := Lib.hid (hc1.out.trans (hl8.mono hc1.out.size)); have hd2 := Lib.hid hb8; clear hl8 hb8)
      | (go_at_call 30; (with_reducible refine Calls.mono (hrc.out _ hd0.out) ?_); rintro e w8 ⟨rfl, hl8, hb8⟩; have hc1 := Lib.hid (hc0.out.trans (hl8.mono hc0.out.size)); have hd1 := Lib.hid hb8; clear hl8 hb8)
      | (go_at_call 31; (with_reducible refine Calls.mono (hrn.out _ hd2.out) ?_); rintro e w8 ⟨rfl, hl8, hb8⟩; have hc3 := Lib.hid (hc2.out.trans (hl8.mono hc2.out.size)); have hd3 := Lib.hid hb8; clear hl8 hb8)
      | (go_at_call 24; (with_reducible refine Calls.mono (hga.out _ hd3.out) ?_); rintro e w8 ⟨rfl, hl8, hb8⟩; have hc4 := Lib.hid (hc3.out.trans (hl8.mono hc3.out.size)); have hd4 := Lib.hid hb8; clear hl8 hb8)
      | (go_at_call 23; (with_reducible refine Calls.mono (hwk.out _ hd4.out) ?_); rintro e w8 ⟨rfl, hl8, hb8⟩; have hc5 := Lib.hid (hc4.out.trans (hl8.mono hc4.out.size)); have hd5 := Lib.hid hb8; clear hl8 hb8)
      | fail)
  all_goals
    go_wp2
    go_ret
    exact ⟨rfl, hd5.out⟩
set_option maxRecDepth 100000 in
theorem ofF_works (l : List UInt8) (w : World) (hN : NamesT w) (hM : MaxT w) (hT : Tab w) (h : 300 < l.length) : Calls Tryd.prog 5 #[.string ⟨l.toArray⟩] w fun e w' => e = .returned (.bool true) ∧ Below w.heap.size w w' := by
  have hwk := Lib.hid (worksF_any w hN hM hT)
  have h1' : (300 : Int) < (l.length : Int) := by omega
  clear hN hM hT h
  go_enter Tryd.func5, Tryd.ntmps5
  go_wp2_with (go_at_call 23; (with_reducible refine Calls.mono hwk.out ?_); rintro e w1 ⟨rfl, hb1⟩)
  go_ret
  exact ⟨rfl, hb1⟩
end Go.Proofs.YtdkmajmmhngdpaaDoor
