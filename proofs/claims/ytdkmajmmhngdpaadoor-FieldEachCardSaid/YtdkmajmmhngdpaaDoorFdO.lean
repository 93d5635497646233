import Derived.Test.YtdkmajmmhngdpaaDoorFdN
namespace Go.Proofs.YtdkmajmmhngdpaaDoor
open Go.RowKit Go.Maps

/-! ## Fields, compared; the chapter's rows -/
theorem field_lits (ki : Int) (a b : List UInt8) (hk : (Lit.int .i64 ki).wf = true) (ha : a.length ≤ 1000000) (hb : b.length ≤ 1000000) : Tryd.prog.keyLits 2 37 [.int .i64 ki, .string ⟨a.toArray⟩, .string ⟨b.toArray⟩] = some [.int .i64 ki, .string a, .string b] := by
  have k1 : Tryd.prog.cellsOf 9 = 1 := by kernel_rfl
  have k2 : Tryd.prog.cellsOf 37 = 3 := by kernel_rfl
  have k3 : Tryd.prog.cellsOf 35 = 1 := by kernel_rfl
  have hz (a : List UInt8) (ha : a.length ≤ 1000000) : (⟨a.toArray⟩ : ByteArray).size ≤ maxLen := by
    show a.toArray.size ≤ _
    simp [maxLen]; omega
  have hz1 := hz a ha
  have hz2 := hz b hb
  simp [Program.keyLits, Tryd.underlying37, Tryd.underlying9, Tryd.underlying35, k1, k2, k3, hz1, hz2, hk]
theorem field_equal (f g : Int × List UInt8 × List UInt8) (hf : (Lit.int .i64 f.1).wf = true) (hg : (Lit.int .i64 g.1).wf = true) (h1 : f.2.1.length ≤ 1000000) (h2 : f.2.2.length ≤ 1000000) (h3 : g.2.1.length ≤ 1000000) (h4 : g.2.2.length ≤ 1000000) (w : World) :
    (Op.equalIn 10000 37 (fieldV f) (fieldV g)).run Tryd.prog w = .ok (decide (f = g)) w := by
  obtain ⟨k, a, b⟩ := f
  obtain ⟨m, c, d⟩ := g
  unfold fieldV
  simp only at hf hg h1 h2 h3 h4 ⊢
  obtain ⟨r, hr, hiff⟩ := run_equalIn_deep (P := Tryd.prog) 9998 2 37 (by kernel_rfl) w 2 2 (.agg #[.int .i64 k, .string ⟨a.toArray⟩, .string ⟨b.toArray⟩]) (.agg #[.int .i64 m, .string ⟨c.toArray⟩, .string ⟨d.toArray⟩]) _ _ (by kernel_rfl) (by kernel_rfl) (field_lits k a b hf h1 h2) (field_lits m c d hg h3 h4)
  rw [hr]
  have : r = decide ((k, a, b) = (m, c, d)) := by
    cases r with
    | true =>
      have := hiff.1 rfl
      simp at this
      exact (decide_eq_true (by rw [this.1, this.2.1, this.2.2])).symm
    | false =>
      refine (decide_eq_false (fun h => ?_)).symm
      injection h with h1 h2
      injection h2 with h2 h3
      have := hiff.2 (by rw [h1, h2, h3])
      cases this
  rw [this]
theorem fieldF_wf (l : List UInt8) : (Lit.int .i64 (fieldF l).1).wf = true := by
  have : 1 ≤ (fieldF l).1 ∧ (fieldF l).1 ≤ 7 := by
    unfold fieldF
    split
    · simp
    · split
      · simp
      · have := kindK_range (Lib.cut l [58]).1
        simp only
        omega
  simp [Lit.wf, IntKind.min, IntKind.max, IntKind.signed, IntKind.bits]
  omega
theorem of_lit (l nm vl : List UInt8) (ki : Int) (w0 w : World) (hb : Below w0.heap.size w0 w) (hN : NamesT w0) (hM : MaxT w0) (hl : l.length ≤ 1000000) (hf : fieldF l = (ki, nm, vl)) :
    Calls Tryd.prog 24 #[.string ⟨l.toArray⟩] w fun e w' => e = .returned (.agg #[.int .i64 ki, .string ⟨nm.toArray⟩, .string ⟨vl.toArray⟩]) ∧ Below w.heap.size w w' ∧ Below w0.heap.size w0 w' := by
  refine (ofF_any l w hl (hN.below hb) (hM.below hb)).mono ?_
  rintro e w' ⟨rfl, h⟩
  rw [hf]
  exact ⟨rfl, h, hb.trans (h.mono hb.size)⟩
theorem below_chain {w1 w2 w3 : World} (h1 : Below w1.heap.size w1 w2) (h2 : Below w2.heap.size w2 w3) : Below w1.heap.size w1 w3 := h1.trans (h2.mono h1.size)
theorem retry_lit (nm vl : List UInt8) (ki n : Int) (b : Bool) (w0 w : World) (hb : Below w0.heap.size w0 w) (hN : NamesT w0) (hT : Tab w0) (hk : (Lit.int .i64 ki).wf = true) (h1 : nm.length ≤ 1000000) (h2 : vl.length ≤ 1000000) (hf : retryF (ki, nm, vl) = (n, b)) :
    Calls Tryd.prog 26 #[.agg #[.int .i64 ki, .string ⟨nm.toArray⟩, .string ⟨vl.toArray⟩]] w fun e w' => e = .returned (.tuple #[.int .u64 n, .bool b]) ∧ Below w.heap.size w w' ∧ Below w0.heap.size w0 w' := by
  refine (retryF_any (ki, nm, vl) w hk h1 h2 (hN.below hb) (hT.below hb)).mono ?_
  rintro e w' ⟨rfl, h⟩
  rw [hf]
  exact ⟨rfl, h, hb.trans (h.mono hb.size)⟩
theorem counts_lit (nm vl : List UInt8) (ki : Int) (b : Bool) (w0 w : World) (hb : Below w0.heap.size w0 w) (hN : NamesT w0) (hT : Tab w0) (hk : (Lit.int .i64 ki).wf = true) (h1 : nm.length ≤ 1000000) (h2 : vl.length ≤ 1000000) (hf : countsF (ki, nm, vl) = b) :
    Calls Tryd.prog 29 #[.agg #[.int .i64 ki, .string ⟨nm.toArray⟩, .string ⟨vl.toArray⟩]] w fun e w' => e = .returned (.bool b) ∧ Below w.heap.size w w' ∧ Below w0.heap.size w0 w' := by
  refine (countsF_any (ki, nm, vl) w hk h1 h2 (hN.below hb) (hT.below hb)).mono ?_
  rintro e w' ⟨rfl, h⟩
  rw [hf]
  exact ⟨rfl, h, hb.trans (h.mono hb.size)⟩
theorem line_lit (nm vl s : List UInt8) (ki n : Int) (w0 w : World) (hb : Below w0.heap.size w0 w) (hN : NamesT w0) (h1 : nm.length ≤ 1000000) (h2 : vl.length ≤ 1000000) (hf : lineOf (ki, nm, vl) = (s, n)) :
    Calls Tryd.prog 28 #[.agg #[.int .i64 ki, .string ⟨nm.toArray⟩, .string ⟨vl.toArray⟩]] w fun e w' => e = .returned (.tuple #[.string ⟨s.toArray⟩, .int .i64 n]) ∧ Below w.heap.size w w' ∧ Below w0.heap.size w0 w' := by
  refine (lineF_any (ki, nm, vl) w h1 h2 (hN.below hb)).mono ?_
  rintro e w' ⟨rfl, h⟩
  rw [hf]
  exact ⟨rfl, h, hb.trans (h.mono hb.size)⟩
set_option maxRecDepth 100000 in
set_option maxHeartbeats 4000000 in
theorem worksF_any (w : World) (hN : NamesT w) (hM : MaxT w) (hT : Tab w) : Calls Tryd.prog 23 #[] w fun e w' => e = .returned (.bool true) ∧ Below w.heap.size w w' := by
  have hN' := Lib.hid hN
  have hM' := Lib.hid hM
  have hT' := Lib.hid hT
  clear hN hM hT
  go_enter Tryd.func23, Tryd.ntmps23
  go_wp2_with fail
  refine (of_lit [100, 97, 116, 97, 58, 32, 97] [100, 97, 116, 97] [97] 3 w w (Below.refl _ _) hN'.out hM'.out (by decide) (by kernel_rfl)).mono ?_
  rintro e w1 ⟨rfl, hc1, hb1⟩
  have hb1' := Lib.hid hb1; clear hb1
  go_wp2_with fail
  refine (of_lit [100, 97, 116, 97, 58, 32, 32, 97] [100, 97, 116, 97] [32, 97] 3 w w1 hb1'.out hN'.out hM'.out (by decide) (by kernel_rfl)).mono ?_
  rintro e w2 ⟨rfl, hc2, hb2⟩
  have hb2' := Lib.hid hb2; clear hb2
  go_wp2_with fail
  refine (of_lit [100, 97, 116, 97] [100, 97, 116, 97] [] 3 w w2 hb2'.out hN'.out hM'.out (by decide) (by kernel_rfl)).mono ?_
  rintro e w3 ⟨rfl, hc3, hb3⟩
  have hb3' := Lib.hid hb3; clear hb3
  go_wp2_with fail
  refine (of_lit [58, 32, 120] [] [32, 120] 2 w w3 hb3'.out hN'.out hM'.out (by decide) (by kernel_rfl)).mono ?_
  rintro e w4 ⟨rfl, hc4, hb4⟩
  have hb4' := Lib.hid hb4; clear hb4
  go_wp2_with fail
  refine (of_lit [100, 97, 116, 97, 120, 58, 49] [100, 97, 116, 97, 120] [49] 7 w w4 hb4'.out hN'.out hM'.out (by decide) (by kernel_rfl)).mono ?_
  rintro e w5 ⟨rfl, hc5, hb5⟩
  have hb5' := Lib.hid hb5; clear hb5
  clear hb1' hb2' hb3' hb4'
  go_wp2_with fail
  have k0 := (((((Has.new w5 37 #[.int .i64 3, .string ⟨#[100, 97, 116, 97]⟩, .string ⟨#[97]⟩]).alloc (.cells #[.int .i64 3, .string ⟨#[100, 97, 116, 97]⟩, .string ⟨#[32, 97]⟩] 37)).alloc (.cells #[.int .i64 3, .string ⟨#[100, 97, 116, 97]⟩, .string ⟨#[]⟩] 37)).alloc (.cells #[.int .i64 2, .string ⟨#[]⟩, .string ⟨#[32, 120]⟩] 37)).alloc (.cells #[.int .i64 7, .string ⟨#[100, 97, 116, 97, 120]⟩, .string ⟨#[49]⟩] 37))
  have k1 := ((((Has.new (w5.alloc (.cells #[.int .i64 3, .string ⟨#[100, 97, 116, 97]⟩, .string ⟨#[97]⟩] 37)) 37 #[.int .i64 3, .string ⟨#[100, 97, 116, 97]⟩, .string ⟨#[32, 97]⟩]).alloc (.cells #[.int .i64 3, .string ⟨#[100, 97, 116, 97]⟩, .string ⟨#[]⟩] 37)).alloc (.cells #[.int .i64 2, .string ⟨#[]⟩, .string ⟨#[32, 120]⟩] 37)).alloc (.cells #[.int .i64 7, .string ⟨#[100, 97, 116, 97, 120]⟩, .string ⟨#[49]⟩] 37))
  have k2 := (((Has.new ((w5.alloc (.cells #[.int .i64 3, .string ⟨#[100, 97, 116, 97]⟩, .string ⟨#[97]⟩] 37)).alloc (.cells #[.int .i64 3, .string ⟨#[100, 97, 116, 97]⟩, .string ⟨#[32, 97]⟩] 37)) 37 #[.int .i64 3, .string ⟨#[100, 97, 116, 97]⟩, .string ⟨#[]⟩]).alloc (.cells #[.int .i64 2, .string ⟨#[]⟩, .string ⟨#[32, 120]⟩] 37)).alloc (.cells #[.int .i64 7, .string ⟨#[100, 97, 116, 97, 120]⟩, .string ⟨#[49]⟩] 37))
  have k3 := ((Has.new (((w5.alloc (.cells #[.int .i64 3, .string ⟨#[100, 97, 116, 97]⟩, .string ⟨#[97]⟩] 37)).alloc (.cells #[.int .i64 3, .string ⟨#[100, 97, 116, 97]⟩, .string ⟨#[32, 97]⟩] 37)).alloc (.cells #[.int .i64 3, .string ⟨#[100, 97, 116, 97]⟩, .string ⟨#[]⟩] 37)) 37 #[.int .i64 2, .string ⟨#[]⟩, .string ⟨#[32, 120]⟩]).alloc (.cells #[.int .i64 7, .string ⟨#[100, 97, 116, 97, 120]⟩, .string ⟨#[49]⟩] 37))
  have k4 := (Has.new ((((w5.alloc (.cells #[.int .i64 3, .string ⟨#[100, 97, 116, 97]⟩, .string ⟨#[97]⟩] 37)).alloc (.cells #[.int .i64 3, .string ⟨#[100, 97, 116, 97]⟩, .string ⟨#[32, 97]⟩] 37)).alloc (.cells #[.int .i64 3, .string ⟨#[100, 97, 116, 97]⟩, .string ⟨#[]⟩] 37)).alloc (.cells #[.int .i64 2, .string ⟨#[]⟩, .string ⟨#[32, 120]⟩] 37)) 37 #[.int .i64 7, .string ⟨#[100, 97, 116, 97, 120]⟩, .string ⟨#[49]⟩])
  have hb6 : Below w.heap.size w (((((w5.alloc (.cells #[.int .i64 3, .string ⟨#[100, 97, 116, 97]⟩, .string ⟨#[97]⟩] 37)).alloc (.cells #[.int .i64 3, .string ⟨#[100, 97, 116, 97]⟩, .string ⟨#[32, 97]⟩] 37)).alloc (.cells #[.int .i64 3, .string ⟨#[100, 97, 116, 97]⟩, .string ⟨#[]⟩] 37)).alloc (.cells #[.int .i64 2, .string ⟨#[]⟩, .string ⟨#[32, 120]⟩] 37)).alloc (.cells #[.int .i64 7, .string ⟨#[100, 97, 116, 97, 120]⟩, .string ⟨#[49]⟩] 37)) := by
    repeat (first | exact hb5'.out | refine Below.alloc ?_ (by have := hb5'.out.size; simp; omega) _)
  simp only [World.size_alloc] at k0 k1 k2 k3 k4
  obtain ⟨w6, hw6⟩ : ∃ w6, (((((w5.alloc (.cells #[.int .i64 3, .string ⟨#[100, 97, 116, 97]⟩, .string ⟨#[97]⟩] 37)).alloc (.cells #[.int .i64 3, .string ⟨#[100, 97, 116, 97]⟩, .string ⟨#[32, 97]⟩] 37)).alloc (.cells #[.int .i64 3, .string ⟨#[100, 97, 116, 97]⟩, .string ⟨#[]⟩] 37)).alloc (.cells #[.int .i64 2, .string ⟨#[]⟩, .string ⟨#[32, 120]⟩] 37)).alloc (.cells #[.int .i64 7, .string ⟨#[100, 97, 116, 97, 120]⟩, .string ⟨#[49]⟩] 37)) = w6 := ⟨_, rfl⟩
  rw [hw6] at k0 k1 k2 k3 k4 hb6
  rw [show (((((w5.alloc (.cells #[.int .i64 3, .string ⟨#[100, 97, 116, 97]⟩, .string ⟨#[97]⟩] 37)).alloc (.cells #[.int .i64 3, .string ⟨#[100, 97, 116, 97]⟩, .string ⟨#[32, 97]⟩] 37)).alloc (.cells #[.int .i64 3, .string ⟨#[100, 97, 116, 97]⟩, .string ⟨#[]⟩] 37)).alloc (.cells #[.int .i64 2, .string ⟨#[]⟩, .string ⟨#[32, 120]⟩] 37)).alloc (.cells #[.int .i64 7, .string ⟨#[100, 97, 116, 97, 120]⟩, .string ⟨#[49]⟩] 37)) = w6 from hw6]
  have k' := Lib.hid (And.intro k0 (And.intro k1 (And.intro k2 (And.intro k3 k4))))
  have hb6' := Lib.hid hb6
  have z6 : Hid (w6.heap.size = w5.heap.size + 1 + 1 + 1 + 1 + 1) := Lib.hid (by rw [← hw6]; simp)
  clear hw6 k0 k1 k2 k3 k4 hb6
  refine (of_lit [114, 101, 116, 114, 121, 58, 32, 48, 49, 48] [114, 101, 116, 114, 121] [48, 49, 48] 6 w w6 hb6'.out hN'.out hM'.out (by decide) (by kernel_rfl)).mono ?_
  rintro e w7 ⟨rfl, hc7, hb7⟩
  have hb7' := Lib.hid hb7; clear hb7
  go_wp2_with fail
  refine (retry_lit [114, 101, 116, 114, 121] [48, 49, 48] 6 10 true w w7 hb7'.out hN'.out hT'.out (by decide) (by decide) (by decide) (by kernel_rfl)).mono ?_
  rintro e w8 ⟨rfl, hc8, hb8⟩
  have hb8' := Lib.hid hb8; clear hb8
  go_wp2_with fail
  refine (of_lit [114, 101, 116, 114, 121, 58, 32, 45, 49] [114, 101, 116, 114, 121] [45, 49] 6 w w8 hb8'.out hN'.out hM'.out (by decide) (by kernel_rfl)).mono ?_
  rintro e w9 ⟨rfl, hc9, hb9⟩
  have hb9' := Lib.hid hb9; clear hb9
  go_wp2_with fail
  refine (retry_lit [114, 101, 116, 114, 121] [45, 49] 6 0 false w w9 hb9'.out hN'.out hT'.out (by decide) (by decide) (by decide) (by kernel_rfl)).mono ?_
  rintro e w10 ⟨rfl, hc10, hb10⟩
  have hb10' := Lib.hid hb10; clear hb10
  go_wp2_with fail
  refine (line_lit [105, 100] [55] [105, 100, 58, 32, 55] 5 0 w w10 hb10'.out hN'.out (by decide) (by decide) (by kernel_rfl)).mono ?_
  rintro e w11 ⟨rfl, hc11, hb11⟩
  have hb11' := Lib.hid hb11; clear hb11
  go_wp2_with fail
  refine (line_lit [100, 97, 116, 97] [] [100, 97, 116, 97] 3 0 w w11 hb11'.out hN'.out (by decide) (by decide) (by kernel_rfl)).mono ?_
  rintro e w12 ⟨rfl, hc12, hb12⟩
  have hb12' := Lib.hid hb12; clear hb12
  obtain ⟨k0, k1, k2, k3, k4⟩ := k'.out
  have hL : Below w6.heap.size w6 w12 := below_chain (below_chain (below_chain (below_chain (below_chain hc7 hc8) hc9) hc10) hc11) hc12
  have z := z6.out
  have x00 := (k0.below hL (by omega)).cell 0
  have x01 := (k0.below hL (by omega)).cell 1
  have x02 := (k0.below hL (by omega)).cell 2
  have x12 := (k1.below hL (by omega)).cell 2
  have x20 := (k2.below hL (by omega)).cell 0
  have x21 := (k2.below hL (by omega)).cell 1
  have x22 := (k2.below hL (by omega)).cell 2
  have x30 := (k3.below hL (by omega)).cell 0
  have x31 := (k3.below hL (by omega)).cell 1
  have x32 := (k3.below hL (by omega)).cell 2
  have x40 := (k4.below hL (by omega)).cell 0
  have x41 := (k4.below hL (by omega)).cell 1
  have x42 := (k4.below hL (by omega)).cell 2
  have e0 := fun W => field_equal (3, [100, 97, 116, 97], [97]) (3, [100, 97, 116, 97], [97]) (by decide) (by decide) (by decide) (by decide) (by decide) (by decide) W
  simp only [fieldV, decide_true] at e0
  have e2 := fun W => field_equal (3, [100, 97, 116, 97], []) (3, [100, 97, 116, 97], []) (by decide) (by decide) (by decide) (by decide) (by decide) (by decide) W
  simp only [fieldV, decide_true] at e2
  have e3 := fun W => field_equal (2, [], [32, 120]) (2, [], [32, 120]) (by decide) (by decide) (by decide) (by decide) (by decide) (by decide) W
  simp only [fieldV, decide_true] at e3
  have e4 := fun W => field_equal (7, [100, 97, 116, 97, 120], [49]) (7, [100, 97, 116, 97, 120], [49]) (by decide) (by decide) (by decide) (by decide) (by decide) (by decide) W
  simp only [fieldV, decide_true] at e4
  clear k0 k1 k2 k3 k4 hL z k' hc7 hc8 hc9 hc10 hc11 hc12 hc1 hc2 hc3 hc4 hc5
  go_wp2_with fail
  refine (of_lit [105, 100, 58, 32, 97, 0] [105, 100] [97, 0] 5 w w12 hb12'.out hN'.out hM'.out (by decide) (by kernel_rfl)).mono ?_
  rintro e w13 ⟨rfl, -, hb13⟩
  have hb13' := Lib.hid hb13; clear hb13
  go_wp2_with fail
  refine (counts_lit [105, 100] [97, 0] 5 false w w13 hb13'.out hN'.out hT'.out (by decide) (by decide) (by decide) (by kernel_rfl)).mono ?_
  rintro e w14 ⟨rfl, -, hb14⟩
  have hb14' := Lib.hid hb14; clear hb14
  go_wp2_with (go_at_call 32; (with_reducible refine Calls.mono (numFd_any _ _) ?_); rintro e w15 ⟨rfl, rfl⟩)
  go_ret
  exact ⟨rfl, hb14'.out⟩
end Go.Proofs.YtdkmajmmhngdpaaDoor
