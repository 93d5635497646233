import Derived.Test.YtdkmajmmhngdpaaDoorFdP
namespace Go.Proofs.YtdkmajmmhngdpaaDoor
open Go.RowKit Go.Maps

set_option maxRecDepth 100000 in
set_option maxHeartbeats 4000000 in
theorem lawHoldsFc (a b : List UInt8) (w : World) (hN : NamesT w) (hM : MaxT w) (hT : Tab w) (ha : a.length ≤ 300) (hb : b.length ≤ 300) (hfg : fieldF a = fieldF b) (hab : a = b) : Calls Tryd.prog 8 #[.string ⟨a.toArray⟩, .string ⟨b.toArray⟩] w fun e w' => e = .returned (.bool true) ∧ Below w.heap.size w w' := by
  have hab1 := Lib.hid hab
  clear hab
  have hsa := sayF_fieldF a
  have hsb := sayF_fieldF b
  have hbk := fieldF_lineF _ hsa
  have hck := fieldF_lineF _ hsb
  have hin := lineF_inj a b
  have hfa := Lib.hid (of_law a w w (Below.refl _ _) hN hM (by omega))
  have hfb := Lib.hid (fun W hb' => of_law b w W hb' hN hM (by omega))
  have la := fieldF_len a
  have lb := fieldF_len b
  have hla := Lib.hid (fun W hb' => line_law (fieldF a) w W hb' hN (by omega) (by omega) hsa)
  have hlb := Lib.hid (fun W hb' => line_law (fieldF b) w W hb' hN (by omega) (by omega) hsb)
  have lsa := lineF_len (fieldF a) 300 (by omega) (by omega)
  have lsb := lineF_len (fieldF b) 300 (by omega) (by omega)
  have hga := Lib.hid (fun W hb' => of_law (lineF (fieldF a)) w W hb' hN hM (by omega))
  have hgb := Lib.hid (fun W hb' => of_law (lineF (fieldF b)) w W hb' hN hM (by omega))
  have ea := fun W => field_equal (fieldF a) (fieldF a) (fieldF_wf a) (fieldF_wf a) (by omega) (by omega) (by omega) (by omega) W
  have eb := fun W => field_equal (fieldF b) (fieldF b) (fieldF_wf b) (fieldF_wf b) (by omega) (by omega) (by omega) (by omega) W
  have eab := fun W => field_equal (fieldF a) (fieldF b) (fieldF_wf a) (fieldF_wf b) (by omega) (by omega) (by omega) (by omega) W
  have hsame : a = b → fieldF a = fieldF b := fun e => by rw [e]
  rw [hbk] at hga
  rw [hck] at hgb
  clear hbk hck hsa hsb la lb lsa lsb
  have hN' := Lib.hid hN
  have hM' := Lib.hid hM
  have hT' := Lib.hid hT
  have hwk := Lib.hid (fun W (hb : Below w.heap.size w W) => worksF_any W (hN.below hb) (hM.below hb) (hT.below hb))
  generalize lineF (fieldF a) = s at *
  generalize lineF (fieldF b) = t at *
  generalize fieldF a = f at *
  generalize fieldF b = g at *
  obtain ⟨k1, n1, v1⟩ := f
  obtain ⟨k2, n2, v2⟩ := g
  simp only [fieldV, decide_true] at hfa hfb hla hlb hga hgb ea eb eab
  have ha' := Lib.hid ha
  clear hN hM hT
  go_enter Tryd.func8, Tryd.ntmps8
  go_wp2_with fail
  refine hfa.out.mono ?_
  rintro e w1 ⟨rfl, -, hb1⟩
  have hb1' := Lib.hid hb1; clear hb1
  go_wp2_with fail
  refine (hfb.out w1 hb1'.out).mono ?_
  rintro e w2 ⟨rfl, -, hb2⟩
  have hb2' := Lib.hid hb2; clear hb2
  go_wp2_with fail
  have kX := (Has.new w2 37 #[.int .i64 k1, .string ⟨n1.toArray⟩, .string ⟨v1.toArray⟩]).alloc (.cells #[.int .i64 k2, .string ⟨n2.toArray⟩, .string ⟨v2.toArray⟩] 37)
  have kY := Has.new (w2.alloc (.cells #[.int .i64 k1, .string ⟨n1.toArray⟩, .string ⟨v1.toArray⟩] 37)) 37 #[.int .i64 k2, .string ⟨n2.toArray⟩, .string ⟨v2.toArray⟩]
  have hb3 : Below w.heap.size w ((w2.alloc (.cells #[.int .i64 k1, .string ⟨n1.toArray⟩, .string ⟨v1.toArray⟩] 37)).alloc (.cells #[.int .i64 k2, .string ⟨n2.toArray⟩, .string ⟨v2.toArray⟩] 37)) := (hb2'.out.alloc hb2'.out.size _).alloc (by have := hb2'.out.size; simp; omega) _
  simp only [World.size_alloc] at kY
  obtain ⟨w3, hw3⟩ : ∃ w3, ((w2.alloc (.cells #[.int .i64 k1, .string ⟨n1.toArray⟩, .string ⟨v1.toArray⟩] 37)).alloc (.cells #[.int .i64 k2, .string ⟨n2.toArray⟩, .string ⟨v2.toArray⟩] 37)) = w3 := ⟨_, rfl⟩
  rw [hw3] at kX kY hb3
  rw [show ((w2.alloc (.cells #[.int .i64 k1, .string ⟨n1.toArray⟩, .string ⟨v1.toArray⟩] 37)).alloc (.cells #[.int .i64 k2, .string ⟨n2.toArray⟩, .string ⟨v2.toArray⟩] 37)) = w3 from hw3]
  have hb3' := Lib.hid hb3
  have z3 : w3.heap.size = w2.heap.size + 1 + 1 := by rw [← hw3]; simp
  clear hw3 hb3
  refine (hla.out w3 hb3'.out).mono ?_
  rintro e w4 ⟨rfl, hl4, hb4⟩
  have hb4' := Lib.hid hb4
  have y0 := (kY.below hl4 (by omega)).cell 0
  have y1 := (kY.below hl4 (by omega)).cell 1
  have y2 := (kY.below hl4 (by omega)).cell 2
  have hl4' := Lib.hid hl4
  clear hb4 hl4
  go_upto_region 6 with (go_at_call 28; (with_reducible refine Calls.mono (hlb.out _ hb4'.out) ?_); rintro e w5 ⟨rfl, hl5, hb5⟩; have hb5' := Lib.hid hb5; have hl5' := Lib.hid (below_chain hl4'.out hl5); clear hb5 hl5)
  have hall := Lib.hid (fun (W : World) (h : Below w5.heap.size w5 W) => show W.cell? ⟨w2.heap.size, 0, none⟩ = some (.int .i64 k1) ∧ W.cell? ⟨w2.heap.size, 1, none⟩ = some (.string ⟨n1.toArray⟩) ∧ W.cell? ⟨w2.heap.size, 2, none⟩ = some (.string ⟨v1.toArray⟩) ∧ W.cell? ⟨w2.heap.size + 1, 0, none⟩ = some (.int .i64 k2) ∧ W.cell? ⟨w2.heap.size + 1, 1, none⟩ = some (.string ⟨n2.toArray⟩) ∧ W.cell? ⟨w2.heap.size + 1, 2, none⟩ = some (.string ⟨v2.toArray⟩) from
    have hx := below_chain hl5'.out h
    have hX := kX.below hx (by omega)
    have hY := kY.below hx (by omega)
    ⟨hX.cell 0, hX.cell 1, hX.cell 2, hY.cell 0, hY.cell 1, hY.cell 2⟩)
  have hc0 := Lib.hid (Below.refl w5.heap.size w5).drew
  have hd0 := Lib.hid hb5'.out.drew
  clear kX kY hl5' hl4' hla hlb hfa hfb y0 y1 y2 z3
  injection hfg with e1 e2
  injection e2 with e2 e3
  subst e1 e2 e3
  obtain rfl : s = t := hin.1 rfl
  clear eb hin hsame
  simp only [decide_true] at eab
  have hab := hab1.out
  subst hab
  first
  | go_region_held3 (fun W => W.cell? ⟨w2.heap.size, 0, none⟩ = some (.int .i64 k1) ∧ W.cell? ⟨w2.heap.size, 1, none⟩ = some (.string ⟨n1.toArray⟩) ∧ W.cell? ⟨w2.heap.size, 2, none⟩ = some (.string ⟨v1.toArray⟩) ∧ W.cell? ⟨w2.heap.size + 1, 0, none⟩ = some (.int .i64 k1) ∧ W.cell? ⟨w2.heap.size + 1, 1, none⟩ = some (.string ⟨n1.toArray⟩) ∧ W.cell? ⟨w2.heap.size + 1, 2, none⟩ = some (.string ⟨v1.toArray⟩))
      (first
      | with_reducible exact hall.out _ hc8.out
      | with_reducible exact hall.out _ hc7.out
      | with_reducible exact hall.out _ hc6.out
      | with_reducible exact hall.out _ hc0.out
      | fail)
      (first
      | (go_at_call 32; (with_reducible refine Calls.mono (numFd_any _ _) ?_); rintro e wn ⟨rfl, rfl⟩)
      | (go_at_call 24; (with_reducible refine Calls.mono (hgb.out _ hd6.out) ?_); rintro e w7 ⟨rfl, hl7, hb7⟩; have hc7 := Lib.hid (hc6.out.trans (hl7.mono hc6.out.size)); have hd7 := Lib.hid hb7; clear hl7 hb7)
      | (go_at_call 24; (with_reducible refine Calls.mono (hga.out _ hd0.out) ?_); rintro e w6 ⟨rfl, hl6, hb6⟩; have hc6 := Lib.hid (hc0.out.trans (hl6.mono hc0.out.size)); have hd6 := Lib.hid hb6; clear hl6 hb6)
      | (go_at_call 23; (with_reducible refine Calls.mono (hwk.out _ hd7.out) ?_); rintro e w8 ⟨rfl, hl8⟩; have hc8 := Lib.hid (hc7.out.trans (hl8.mono hc7.out.size)); have hd8 := Lib.hid (hd7.out.trans (hl8.mono hd7.out.size)); clear hl8)
      | fail)
  | fail
  all_goals
    go_wp2
    go_ret
    exact ⟨rfl, hd8.out⟩
end Go.Proofs.YtdkmajmmhngdpaaDoor
