import Derived.Test.YtlbiniibkbhghaaDoorPk10
import Derived.Test.YtlbiniibkbhghaaDoorPk11
import Derived.Test.YtlbiniibkbhghaaDoorPk4
import Derived.Laws.MakeOwn
namespace Go.Proofs.YtlbiniibkbhghaaDoor
open Go.RowKit Go.Shelf
attribute [local go_sem] Oper.semAt_some

/-! ## EventBounds: texts of a length, of one byte alone -/
def aL (n : Nat) : List UInt8 := List.replicate n 97
theorem aL_len (n : Nat) : (aL n).length = n := List.length_replicate
theorem aL_mem {n : Nat} {b : UInt8} (h : b ∈ aL n) : b = 97 := List.eq_of_mem_replicate h
theorem aL_sound : ∀ n : Nat, SoundL (aL n)
  | 0 => sound_nil
  | n + 1 => by
    have hl : look (aL (n + 1)) = ⟨97 - markN 0, 1, 0⟩ := rfl
    rw [sound_look (by simp [aL, List.replicate_succ]), hl]
    refine ⟨rfl, ?_⟩
    have : (aL (n + 1)).drop 1 = aL n := by simp [aL, List.replicate_succ]
    rw [this]
    exact aL_sound n
theorem aL_clean (n k : Nat) : cleanB (aL n) k = true := by
  rw [cleanB_iff]
  refine ⟨decide_eq_true (aL_sound n), fun b hb hm => ?_⟩
  rw [aL_mem hm] at hb
  have : (97 : UInt8) ∉ barL := by decide
  exact this (List.mem_of_mem_take hb)
theorem aL_ok (n : Nat) : okC (aL n) = decide (n ≤ 65536) := by
  unfold okC
  rw [aL_clean, aL_len, Bool.and_true]
theorem aL_right (i j k : Nat) : rightE (aL i, aL j, aL k) = decide (i + j + k ≤ 65536) := by
  unfold rightE fitsE
  simp only [aL_clean, aL_len, Bool.and_true]
theorem exD (l : List UInt8) (a b : Nat) : (⟨l.toArray⟩ : ByteArray).extract a b = ⟨((l.drop a).take (b - a)).toArray⟩ := by
  have h : ((⟨l.toArray⟩ : ByteArray).extract a b).data = ((l.drop a).take (b - a)).toArray := by
    apply Array.toList_inj.1
    rw [ByteArray.data_extract, Array.toList_extract, List.extract_eq_take_drop]
  generalize (⟨l.toArray⟩ : ByteArray).extract a b = x at h ⊢
  cases x
  exact congrArg ByteArray.mk h
theorem aL_tail (n : Nat) : (⟨(aL n).toArray⟩ : ByteArray).extract 1 n = ⟨(aL (n - 1)).toArray⟩ := by
  rw [exD]
  unfold aL
  rw [List.drop_replicate, List.take_replicate, Nat.min_self]
theorem aL_head {n : Nat} (h : 1 ≤ n) : (⟨(aL n).toArray⟩ : ByteArray).extract 0 1 = ⟨(aL 1).toArray⟩ := by
  rw [exD]
  unfold aL
  rw [List.drop_zero, List.take_replicate, show min (1 - 0) n = 1 by omega]
/-- Bytes that are filled, one by one. -/
structure FillS (w : World) (B n k : Nat) (W : World) : Prop where
  row : ∃ cs, Has W B 5 cs ∧ cs.size = n ∧ ∀ j, j < k → cs[j]? = some (byt 97)
  be : Below B w W
theorem FillS.all {w W : World} {B n : Nat} (h : FillS w B n n W) : Has W B 5 (byts (aL n)).toArray := by
  obtain ⟨cs, hh, hs, hc⟩ := h.row
  have : cs = (byts (aL n)).toArray := by
    apply Array.ext_getElem?
    intro i
    by_cases hi : i < n
    · rw [hc i hi, List.getElem?_toArray, byts_at (by rw [aL_len]; exact hi)]
      congr 1
      exact (congrArg byt (aL_mem (List.getElem_mem _))).symm
    · rw [Array.getElem?_eq_none (by omega), Array.getElem?_eq_none (by simp [byts_length, aL_len]; omega)]
  rwa [this] at hh
/-! ## The law -/
theorem carryD {P : Program} {k : FuncId} {args : Array Value} {v : Value} (w0 w : World) (hb : Below w0.heap.size w0 w) (h : Calls P k args w fun e w' => e = .returned v ∧ Below w.heap.size w w') : Calls P k args w fun e w' => e = .returned v ∧ Below w0.heap.size w0 w' := by
  refine h.mono ?_
  rintro e w' ⟨rfl, h⟩
  exact ⟨rfl, hb.trans (h.mono hb.size)⟩
set_option maxRecDepth 100000 in
theorem bd_far (z k : Int) (w : World) (hT : EvT w) (hD : Tab w) (h : ¬ (-1 ≤ z ∧ z ≤ 1 ∧ 0 ≤ k ∧ k ≤ 3)) : Calls Tryd.prog 8 #[.int .i64 z, .int .i64 k] w fun r w' => r = .returned (.bool true) ∧ Below w.heap.size w w' := by
  have hwk := Lib.hid (worksE_any w hT hD)
  clear hT hD
  by_cases h1 : z < -1
  · have q1 : decide (z < -1) = true := decide_eq_true h1
    go_enter Tryd.func8, Tryd.ntmps8
    go_wp2_with (go_at_call 41; (with_reducible refine Calls.mono hwk.out ?_); rintro r w4 ⟨rfl, hb4⟩; have hb4' := Lib.hid hb4; clear hb4)
    go_ret
    exact ⟨rfl, hb4'.out⟩
  · have q1 : decide (z < -1) = false := decide_eq_false h1
    by_cases h2 : 1 < z
    · have q2 : decide (1 < z) = true := decide_eq_true h2
      go_enter Tryd.func8, Tryd.ntmps8
      go_wp2_with (go_at_call 41; (with_reducible refine Calls.mono hwk.out ?_); rintro r w4 ⟨rfl, hb4⟩; have hb4' := Lib.hid hb4; clear hb4)
      go_ret
      exact ⟨rfl, hb4'.out⟩
    · have q2 : decide (1 < z) = false := decide_eq_false h2
      by_cases h3 : k < 0
      · have q3 : decide (k < 0) = true := decide_eq_true h3
        go_enter Tryd.func8, Tryd.ntmps8
        go_wp2_with (go_at_call 41; (with_reducible refine Calls.mono hwk.out ?_); rintro r w4 ⟨rfl, hb4⟩; have hb4' := Lib.hid hb4; clear hb4)
        go_ret
        exact ⟨rfl, hb4'.out⟩
      · have q3 : decide (k < 0) = false := decide_eq_false h3
        have h4 : 3 < k := by omega
        have q4 : decide (3 < k) = true := decide_eq_true h4
        go_enter Tryd.func8, Tryd.ntmps8
        go_wp2_with (go_at_call 41; (with_reducible refine Calls.mono hwk.out ?_); rintro r w4 ⟨rfl, hb4⟩; have hb4' := Lib.hid hb4; clear hb4)
        go_ret
        exact ⟨rfl, hb4'.out⟩
theorem infoU8 : (Tryd.prog.info? 5).map (fun i => (i.zero, i.size, i.bytes)) = some (some (.int .u8 0), 1, 1) := by kernel_rfl
theorem make_u8 (z : Int) (N : Nat) (hz : 65536 + z = (N : Int)) (hN : N ≤ 65537) (w : World) : (Instr.makeSlice 35 (.int .i64 (65536 + z)) (.int .i64 (65536 + z))).run Tryd.prog w = .ok (.slice (some ⟨w.heap.size, 0, none⟩) N N) (w.alloc (.cells (madeCells #[.int .u8 0] N) 5)) := by
  have h := infoU8
  cases hi : Tryd.prog.info? 5 with
  | none => rw [hi] at h; cases h
  | some i =>
    rw [hi] at h
    simp only [Option.map_some, Option.some.injEq, Prod.mk.injEq] at h
    obtain ⟨h1, h2, h3⟩ := h
    have hr := run_make w 35 5 i (.int .u8 0) Tryd.underlying35 hi h1 .i64 .i64 (65536 + z) (65536 + z) (by omega) (Int.le_refl _) (by rw [h3]; omega) (by omega)
    rw [hr, hz, h2]
    simp [Value.cells]
theorem made_has (w : World) (N : Nat) : FillS w w.heap.size N 0 (w.alloc (.cells (madeCells #[.int .u8 0] N) 5)) :=
  ⟨⟨_, Has.new _ _ _, by rw [size_madeCells], fun j h => absurd h (Nat.not_lt_zero _)⟩, (Below.refl _ _).alloc (Nat.le_refl _) _⟩
def CmBd (n : Nat) (w0 W : World) (r : Ending) (w' : World) : Prop :=
  ∃ A m c e, r = .returned (.tuple #[.slice A m c, .int .i64 e]) ∧ ((n ≤ 65536 ∧ m = n + 4 ∧ e = 0) ∨ (65536 < n ∧ m = 0 ∧ e = 2)) ∧ Below w0.heap.size w0 w' ∧ w' = w' ∧ W = W
theorem comment_bd (n : Nat) (w0 w : World) (hb : Below w0.heap.size w0 w) (hn : n ≤ 70000) (hT : EvT w0) : Calls Tryd.prog 42 #[.string ⟨(aL n).toArray⟩] w (CmBd n w0 w) := by
  refine (comment_any (aL n) w (by rw [aL_len]; omega) (hT.below hb)).mono ?_
  rintro r w' ⟨⟨h, v, rfl, hv⟩ | ⟨h, rfl⟩, hb2⟩
  · obtain ⟨A, c, rfl, _⟩ := hv.shape
    rw [aL_ok] at h
    refine ⟨A, _, c, 0, rfl, .inl ⟨of_decide_eq_true h, ?_, rfl⟩, hb.trans (hb2.mono hb.size), rfl, rfl⟩
    simp [comL, aL_len]
  · rw [aL_ok] at h
    have := of_decide_eq_false h
    exact ⟨none, 0, 0, 2, rfl, .inr ⟨by omega, rfl, rfl⟩, hb.trans (hb2.mono hb.size), rfl, rfl⟩
theorem check_bd (i j k : Nat) (w0 w : World) (hb : Below w0.heap.size w0 w) (hi : i ≤ 70000) (hj : j ≤ 70000) (hk : k ≤ 70000) (hT : EvT w0) : Calls Tryd.prog 44 #[evV (aL i, aL j, aL k)] w fun r w' => r = .returned (.int .i64 (if i + j + k ≤ 65536 then 0 else 2)) ∧ Below w0.heap.size w0 w' := by
  refine carryD w0 w hb ((check_any (aL i, aL j, aL k) w ⟨by simp only [aL_len]; omega, by simp only [aL_len]; omega, by simp only [aL_len]; omega⟩ (hT.below hb)).mono fun r w' h => ⟨?_, h.2⟩)
  rw [h.1]
  unfold errE
  rw [aL_right]
  simp
set_option maxRecDepth 100000 in
set_option maxHeartbeats 4000000 in
theorem bd_near (z k : Int) (w : World) (hT : EvT w) (hD : Tab w) (h : -1 ≤ z ∧ z ≤ 1 ∧ 0 ≤ k ∧ k ≤ 3) : Calls Tryd.prog 8 #[.int .i64 z, .int .i64 k] w fun r w' => r = .returned (.bool true) ∧ Below w.heap.size w w' := by
  obtain ⟨h1, h2, h3, h4⟩ := h
  have hwk := Lib.hid (fun W (hb : Below w.heap.size w W) => carryD w W hb (worksE_any W (hT.below hb) (hD.below hb)))
  obtain ⟨N, hN⟩ : ∃ N : Nat, 65536 + z = (N : Int) := ⟨(65536 + z).toNat, by omega⟩
  have hNl : N ≤ 65537 := by omega
  have hNg : 65535 ≤ N := by omega
  have hmk := fun W => make_u8 z N hN hNl W
  have hfill := Lib.hid (made_has w N)
  have hcm := Lib.hid (fun W (hb : Below w.heap.size w W) => comment_bd N w W hb (by omega) hT)
  have hc0 := Lib.hid (fun W (hb : Below w.heap.size w W) => check_bd N 0 0 w W hb (by omega) (by omega) (by omega) hT)
  have hc1 := Lib.hid (fun W (hb : Below w.heap.size w W) => check_bd 0 N 0 w W hb (by omega) (by omega) (by omega) hT)
  have hc2 := Lib.hid (fun W (hb : Below w.heap.size w W) => check_bd 1 0 (N - 1) w W hb (by omega) (by omega) (by omega) hT)
  have q1 : decide (z < -1) = false := decide_eq_false (by omega)
  have q2 : decide (1 < z) = false := decide_eq_false (by omega)
  have q3 : decide (k < 0) = false := decide_eq_false (by omega)
  have q4 : decide (3 < k) = false := decide_eq_false (by omega)
  have hN' := Lib.hid hN
  clear hT hD hN
  go_enter Tryd.func8, Tryd.ntmps8
  go_wp2_with fail
  obtain ⟨B, hB⟩ : ∃ B, w.heap.size = B := ⟨_, rfl⟩
  rw [hB] at hfill ⊢
  have hB' := Lib.hid hB
  obtain ⟨w2, hw2⟩ : ∃ w2, w.alloc (.cells (madeCells #[.int .u8 0] N) 5) = w2 := ⟨_, rfl⟩
  rw [hw2] at hfill ⊢
  clear hw2 hB hmk
  go_loopw [6] (fun v W => ∃ i : Nat, v = .int .i64 (i : Int) ∧ i ≤ N ∧ FillS w B N i W) (fun v _ => N - (intOf v).toNat)
  case atStart => exact ⟨0, rfl, Nat.zero_le _, hfill.out⟩
  case round =>
    obtain ⟨i, rfl, hi, hF⟩ := hrel
    by_cases hlt : i < N
    · have hltI : (i : Int) < (N : Int) := by omega
      obtain ⟨cs, hh, hs, hc⟩ := hF.row
      obtain ⟨u, hu⟩ : ∃ u, cs[i]? = some u := ⟨cs[i]'(by omega), Array.getElem?_eq_getElem _⟩
      have c0 := hh.cell i
      rw [hu] at c0
      have f0 := hh.free i
      have hnx := Lib.hid (show FillS w B N (i + 1) (wr.setCell ⟨B, i, none⟩ (.int .u8 97)) from
        ⟨⟨_, hh.put i (.int .u8 97), by simp [hs], fun j hj => by
          rw [Array.getElem?_setIfInBounds]
          by_cases e : i = j
          · subst e; rw [if_pos rfl, if_pos (by omega)]; rfl
          · rw [if_neg e]; exact hc j (by omega)⟩, hF.be.setCell (p := ⟨B, i, none⟩) (Nat.le_refl _) _⟩)
      clear hF hh hs hc hu hfill
      go_wp2_with fail
      exact ⟨⟨i + 1, by go_num, by omega, hnx.out⟩, by simp [intOf]; omega⟩
    · obtain rfl : i = N := by omega
      have hall := hF.all
      have hbw := Lib.hid (show Below w.heap.size w wr from by rw [hB'.out]; exact hF.be)
      have hcv : (convert 35 9 (.slice (some ⟨B, 0, none⟩) i i)).run Tryd.prog wr = .ok (.string ⟨(aL i).toArray⟩) wr := by
        have := (Has.rd hall).text (P := Tryd.prog) 35 9 5 i Tryd.underlying35 Tryd.underlying5 Tryd.underlying9
        rwa [aL_len] at this
      have hx1 := aL_tail i
      have hx2 := aL_head (n := i) (by omega)
      have hi1 : (1 : Int) ≤ (i : Int) := by omega
      have hsz := aL_len i
      clear hF hall hfill
      rw [show aL 0 = [] from rfl] at hc0 hc1 hc2
      unfold evV evCells at hc0 hc1 hc2
      simp only at hc0 hc1 hc2
      rcases (show z = 1 ∨ z = 0 ∨ z = -1 by omega) with rfl | rfl | rfl
      · rw [show (if i + 0 + 0 ≤ 65536 then (0 : Int) else 2) = 2 from if_neg (by have := hN'.out; omega)] at hc0
        rw [show (if 0 + i + 0 ≤ 65536 then (0 : Int) else 2) = 2 from if_neg (by have := hN'.out; omega)] at hc1
        rw [show (if 1 + 0 + (i - 1) ≤ 65536 then (0 : Int) else 2) = 2 from if_neg (by have := hN'.out; omega)] at hc2
        rcases (show k = 3 ∨ k = 0 ∨ k = 1 ∨ k = 2 by omega) with rfl | rfl | rfl | rfl
        · have hcmw := Lib.hid (hcm.out wr hbw.out)
          unfold CmBd at hcmw
          go_wp2_with fail
          refine hcmw.out.mono ?_
          rintro r w5 ⟨A, m, c, e, rfl, hme, hb5, -, -⟩
          have hb5' := Lib.hid hb5
          obtain ⟨rfl, rfl⟩ : m = 0 ∧ e = 2 := by
            have := hN'.out
            rcases hme with h | h
            · exact absurd h.1 (by omega)
            · exact h.2
          have hq : (((i + 4 : Nat) : Int) == (i : Int) + 4) = true := by rw [beq_iff_eq]; rfl
          clear hme hb5 hcv hx1 hx2
          go_wp2_with (first
            | (go_at_call 43; (with_reducible refine Calls.mono (numE_any _ _) ?_); rintro e w15 ⟨rfl, rfl⟩)
            | (go_at_call 41; (with_reducible refine Calls.mono (hwk.out _ hb5'.out) ?_); rintro r w6 ⟨rfl, hb6⟩; have hb6' := Lib.hid hb6; clear hb6))
          go_ret
          exact ⟨rfl, hb6'.out⟩
        · go_wp2_with fail
          go_region
          have kE := Lib.hid (show Has (wr.alloc (.cells #[.string ⟨(aL 1).toArray⟩, .string ⟨#[]⟩, .string ⟨(aL (i - 1)).toArray⟩] 53)).drew wr.heap.size 53 #[.string ⟨(aL 1).toArray⟩, .string ⟨#[]⟩, .string ⟨(aL (i - 1)).toArray⟩] from Has.new _ _ _)
          have hbE := Lib.hid (hbw.out.alloc hbw.out.size (.cells #[.string ⟨(aL 1).toArray⟩, .string ⟨#[]⟩, .string ⟨(aL (i - 1)).toArray⟩] 53)).drew
          obtain ⟨w4, hw4⟩ : ∃ w4, (wr.alloc (.cells #[.string ⟨(aL 1).toArray⟩, .string ⟨#[]⟩, .string ⟨(aL (i - 1)).toArray⟩] 53)).drew = w4 := ⟨_, rfl⟩
          rw [hw4] at kE hbE ⊢
          have hws := hbw.out.size
          obtain ⟨E, hE⟩ : ∃ E, wr.heap.size = E := ⟨_, rfl⟩
          rw [hE] at kE hws ⊢
          clear hw4 hE hcv hx1 hx2
          have y0 := kE.out.cell 0
          have y1 := kE.out.cell 1
          have y2 := kE.out.cell 2
          have g0 := kE.out.free 0
          have g1 := kE.out.free 1
          have g2 := kE.out.free 2
          have kF := Lib.hid (((kE.out.put 0 (.string ⟨(aL i).toArray⟩)).put 1 (.string ⟨#[]⟩)).put 2 (.string ⟨#[]⟩))
          have z0 := kF.out.cell 0
          have z1 := kF.out.cell 1
          have z2 := kF.out.cell 2
          have hbF := Lib.hid (((hbE.out.setCell (p := ⟨E, 0, none⟩) hws (.string ⟨(aL i).toArray⟩)).setCell (p := ⟨E, 1, none⟩) hws (.string ⟨#[]⟩)).setCell (p := ⟨E, 2, none⟩) hws (.string ⟨#[]⟩))
          go_wp2_with (first
            | (go_at_call 44; (refine Calls.mono (hc0.out _ hbF.out) ?_); rintro r w5 ⟨rfl, hb5⟩; have hb5' := Lib.hid hb5; clear hb5)
            | (go_at_call 43; (with_reducible refine Calls.mono (numE_any _ _) ?_); rintro e w15 ⟨rfl, rfl⟩)
            | (go_at_call 41; (with_reducible refine Calls.mono (hwk.out _ hb5'.out) ?_); rintro r w6 ⟨rfl, hb6⟩; have hb6' := Lib.hid hb6; clear hb6))
          go_ret
          exact ⟨rfl, hb6'.out⟩
        · go_wp2_with fail
          go_region
          have kE := Lib.hid (show Has (wr.alloc (.cells #[.string ⟨(aL 1).toArray⟩, .string ⟨#[]⟩, .string ⟨(aL (i - 1)).toArray⟩] 53)).drew wr.heap.size 53 #[.string ⟨(aL 1).toArray⟩, .string ⟨#[]⟩, .string ⟨(aL (i - 1)).toArray⟩] from Has.new _ _ _)
          have hbE := Lib.hid (hbw.out.alloc hbw.out.size (.cells #[.string ⟨(aL 1).toArray⟩, .string ⟨#[]⟩, .string ⟨(aL (i - 1)).toArray⟩] 53)).drew
          obtain ⟨w4, hw4⟩ : ∃ w4, (wr.alloc (.cells #[.string ⟨(aL 1).toArray⟩, .string ⟨#[]⟩, .string ⟨(aL (i - 1)).toArray⟩] 53)).drew = w4 := ⟨_, rfl⟩
          rw [hw4] at kE hbE ⊢
          have hws := hbw.out.size
          obtain ⟨E, hE⟩ : ∃ E, wr.heap.size = E := ⟨_, rfl⟩
          rw [hE] at kE hws ⊢
          clear hw4 hE hcv hx1 hx2
          have y0 := kE.out.cell 0
          have y1 := kE.out.cell 1
          have y2 := kE.out.cell 2
          have g0 := kE.out.free 0
          have g1 := kE.out.free 1
          have g2 := kE.out.free 2
          have kF := Lib.hid (((kE.out.put 0 (.string ⟨#[]⟩)).put 1 (.string ⟨(aL i).toArray⟩)).put 2 (.string ⟨#[]⟩))
          have z0 := kF.out.cell 0
          have z1 := kF.out.cell 1
          have z2 := kF.out.cell 2
          have hbF := Lib.hid (((hbE.out.setCell (p := ⟨E, 0, none⟩) hws (.string ⟨#[]⟩)).setCell (p := ⟨E, 1, none⟩) hws (.string ⟨(aL i).toArray⟩)).setCell (p := ⟨E, 2, none⟩) hws (.string ⟨#[]⟩))
          go_wp2_with (first
            | (go_at_call 44; (refine Calls.mono (hc1.out _ hbF.out) ?_); rintro r w5 ⟨rfl, hb5⟩; have hb5' := Lib.hid hb5; clear hb5)
            | (go_at_call 43; (with_reducible refine Calls.mono (numE_any _ _) ?_); rintro e w15 ⟨rfl, rfl⟩)
            | (go_at_call 41; (with_reducible refine Calls.mono (hwk.out _ hb5'.out) ?_); rintro r w6 ⟨rfl, hb6⟩; have hb6' := Lib.hid hb6; clear hb6))
          go_ret
          exact ⟨rfl, hb6'.out⟩
        · go_wp2_with fail
          go_region
          have kE := Lib.hid (show Has (wr.alloc (.cells #[.string ⟨(aL 1).toArray⟩, .string ⟨#[]⟩, .string ⟨(aL (i - 1)).toArray⟩] 53)).drew wr.heap.size 53 #[.string ⟨(aL 1).toArray⟩, .string ⟨#[]⟩, .string ⟨(aL (i - 1)).toArray⟩] from Has.new _ _ _)
          have hbE := Lib.hid (hbw.out.alloc hbw.out.size (.cells #[.string ⟨(aL 1).toArray⟩, .string ⟨#[]⟩, .string ⟨(aL (i - 1)).toArray⟩] 53)).drew
          obtain ⟨w4, hw4⟩ : ∃ w4, (wr.alloc (.cells #[.string ⟨(aL 1).toArray⟩, .string ⟨#[]⟩, .string ⟨(aL (i - 1)).toArray⟩] 53)).drew = w4 := ⟨_, rfl⟩
          rw [hw4] at kE hbE ⊢
          have hws := hbw.out.size
          obtain ⟨E, hE⟩ : ∃ E, wr.heap.size = E := ⟨_, rfl⟩
          rw [hE] at kE hws ⊢
          clear hw4 hE hcv hx1 hx2
          have y0 := kE.out.cell 0
          have y1 := kE.out.cell 1
          have y2 := kE.out.cell 2
          have g0 := kE.out.free 0
          have g1 := kE.out.free 1
          have g2 := kE.out.free 2
          go_wp2_with (first
            | (go_at_call 44; (refine Calls.mono (hc2.out _ hbE.out) ?_); rintro r w5 ⟨rfl, hb5⟩; have hb5' := Lib.hid hb5; clear hb5)
            | (go_at_call 43; (with_reducible refine Calls.mono (numE_any _ _) ?_); rintro e w15 ⟨rfl, rfl⟩)
            | (go_at_call 41; (with_reducible refine Calls.mono (hwk.out _ hb5'.out) ?_); rintro r w6 ⟨rfl, hb6⟩; have hb6' := Lib.hid hb6; clear hb6))
          go_ret
          exact ⟨rfl, hb6'.out⟩
      · rw [show (if i + 0 + 0 ≤ 65536 then (0 : Int) else 2) = 0 from if_pos (by have := hN'.out; omega)] at hc0
        rw [show (if 0 + i + 0 ≤ 65536 then (0 : Int) else 2) = 0 from if_pos (by have := hN'.out; omega)] at hc1
        rw [show (if 1 + 0 + (i - 1) ≤ 65536 then (0 : Int) else 2) = 0 from if_pos (by have := hN'.out; omega)] at hc2
        rcases (show k = 3 ∨ k = 0 ∨ k = 1 ∨ k = 2 by omega) with rfl | rfl | rfl | rfl
        · have hcmw := Lib.hid (hcm.out wr hbw.out)
          unfold CmBd at hcmw
          go_wp2_with fail
          refine hcmw.out.mono ?_
          rintro r w5 ⟨A, m, c, e, rfl, hme, hb5, -, -⟩
          have hb5' := Lib.hid hb5
          obtain ⟨rfl, rfl⟩ : m = i + 4 ∧ e = 0 := by
            have := hN'.out
            rcases hme with h | h
            · exact h.2
            · exact absurd h.1 (by omega)
          have hq : (((i + 4 : Nat) : Int) == (i : Int) + 4) = true := by rw [beq_iff_eq]; rfl
          clear hme hb5 hcv hx1 hx2
          go_wp2_with (first
            | (go_at_call 43; (with_reducible refine Calls.mono (numE_any _ _) ?_); rintro e w15 ⟨rfl, rfl⟩)
            | (go_at_call 41; (with_reducible refine Calls.mono (hwk.out _ hb5'.out) ?_); rintro r w6 ⟨rfl, hb6⟩; have hb6' := Lib.hid hb6; clear hb6))
          go_ret
          exact ⟨rfl, hb6'.out⟩
        · go_wp2_with fail
          go_region
          have kE := Lib.hid (show Has (wr.alloc (.cells #[.string ⟨(aL 1).toArray⟩, .string ⟨#[]⟩, .string ⟨(aL (i - 1)).toArray⟩] 53)).drew wr.heap.size 53 #[.string ⟨(aL 1).toArray⟩, .string ⟨#[]⟩, .string ⟨(aL (i - 1)).toArray⟩] from Has.new _ _ _)
          have hbE := Lib.hid (hbw.out.alloc hbw.out.size (.cells #[.string ⟨(aL 1).toArray⟩, .string ⟨#[]⟩, .string ⟨(aL (i - 1)).toArray⟩] 53)).drew
          obtain ⟨w4, hw4⟩ : ∃ w4, (wr.alloc (.cells #[.string ⟨(aL 1).toArray⟩, .string ⟨#[]⟩, .string ⟨(aL (i - 1)).toArray⟩] 53)).drew = w4 := ⟨_, rfl⟩
          rw [hw4] at kE hbE ⊢
          have hws := hbw.out.size
          obtain ⟨E, hE⟩ : ∃ E, wr.heap.size = E := ⟨_, rfl⟩
          rw [hE] at kE hws ⊢
          clear hw4 hE hcv hx1 hx2
          have y0 := kE.out.cell 0
          have y1 := kE.out.cell 1
          have y2 := kE.out.cell 2
          have g0 := kE.out.free 0
          have g1 := kE.out.free 1
          have g2 := kE.out.free 2
          have kF := Lib.hid (((kE.out.put 0 (.string ⟨(aL i).toArray⟩)).put 1 (.string ⟨#[]⟩)).put 2 (.string ⟨#[]⟩))
          have z0 := kF.out.cell 0
          have z1 := kF.out.cell 1
          have z2 := kF.out.cell 2
          have hbF := Lib.hid (((hbE.out.setCell (p := ⟨E, 0, none⟩) hws (.string ⟨(aL i).toArray⟩)).setCell (p := ⟨E, 1, none⟩) hws (.string ⟨#[]⟩)).setCell (p := ⟨E, 2, none⟩) hws (.string ⟨#[]⟩))
          go_wp2_with (first
            | (go_at_call 44; (refine Calls.mono (hc0.out _ hbF.out) ?_); rintro r w5 ⟨rfl, hb5⟩; have hb5' := Lib.hid hb5; clear hb5)
            | (go_at_call 43; (with_reducible refine Calls.mono (numE_any _ _) ?_); rintro e w15 ⟨rfl, rfl⟩)
            | (go_at_call 41; (with_reducible refine Calls.mono (hwk.out _ hb5'.out) ?_); rintro r w6 ⟨rfl, hb6⟩; have hb6' := Lib.hid hb6; clear hb6))
          go_ret
          exact ⟨rfl, hb6'.out⟩
        · go_wp2_with fail
          go_region
          have kE := Lib.hid (show Has (wr.alloc (.cells #[.string ⟨(aL 1).toArray⟩, .string ⟨#[]⟩, .string ⟨(aL (i - 1)).toArray⟩] 53)).drew wr.heap.size 53 #[.string ⟨(aL 1).toArray⟩, .string ⟨#[]⟩, .string ⟨(aL (i - 1)).toArray⟩] from Has.new _ _ _)
          have hbE := Lib.hid (hbw.out.alloc hbw.out.size (.cells #[.string ⟨(aL 1).toArray⟩, .string ⟨#[]⟩, .string ⟨(aL (i - 1)).toArray⟩] 53)).drew
          obtain ⟨w4, hw4⟩ : ∃ w4, (wr.alloc (.cells #[.string ⟨(aL 1).toArray⟩, .string ⟨#[]⟩, .string ⟨(aL (i - 1)).toArray⟩] 53)).drew = w4 := ⟨_, rfl⟩
          rw [hw4] at kE hbE ⊢
          have hws := hbw.out.size
          obtain ⟨E, hE⟩ : ∃ E, wr.heap.size = E := ⟨_, rfl⟩
          rw [hE] at kE hws ⊢
          clear hw4 hE hcv hx1 hx2
          have y0 := kE.out.cell 0
          have y1 := kE.out.cell 1
          have y2 := kE.out.cell 2
          have g0 := kE.out.free 0
          have g1 := kE.out.free 1
          have g2 := kE.out.free 2
          have kF := Lib.hid (((kE.out.put 0 (.string ⟨#[]⟩)).put 1 (.string ⟨(aL i).toArray⟩)).put 2 (.string ⟨#[]⟩))
          have z0 := kF.out.cell 0
          have z1 := kF.out.cell 1
          have z2 := kF.out.cell 2
          have hbF := Lib.hid (((hbE.out.setCell (p := ⟨E, 0, none⟩) hws (.string ⟨#[]⟩)).setCell (p := ⟨E, 1, none⟩) hws (.string ⟨(aL i).toArray⟩)).setCell (p := ⟨E, 2, none⟩) hws (.string ⟨#[]⟩))
          go_wp2_with (first
            | (go_at_call 44; (refine Calls.mono (hc1.out _ hbF.out) ?_); rintro r w5 ⟨rfl, hb5⟩; have hb5' := Lib.hid hb5; clear hb5)
            | (go_at_call 43; (with_reducible refine Calls.mono (numE_any _ _) ?_); rintro e w15 ⟨rfl, rfl⟩)
            | (go_at_call 41; (with_reducible refine Calls.mono (hwk.out _ hb5'.out) ?_); rintro r w6 ⟨rfl, hb6⟩; have hb6' := Lib.hid hb6; clear hb6))
          go_ret
          exact ⟨rfl, hb6'.out⟩
        · go_wp2_with fail
          go_region
          have kE := Lib.hid (show Has (wr.alloc (.cells #[.string ⟨(aL 1).toArray⟩, .string ⟨#[]⟩, .string ⟨(aL (i - 1)).toArray⟩] 53)).drew wr.heap.size 53 #[.string ⟨(aL 1).toArray⟩, .string ⟨#[]⟩, .string ⟨(aL (i - 1)).toArray⟩] from Has.new _ _ _)
          have hbE := Lib.hid (hbw.out.alloc hbw.out.size (.cells #[.string ⟨(aL 1).toArray⟩, .string ⟨#[]⟩, .string ⟨(aL (i - 1)).toArray⟩] 53)).drew
          obtain ⟨w4, hw4⟩ : ∃ w4, (wr.alloc (.cells #[.string ⟨(aL 1).toArray⟩, .string ⟨#[]⟩, .string ⟨(aL (i - 1)).toArray⟩] 53)).drew = w4 := ⟨_, rfl⟩
          rw [hw4] at kE hbE ⊢
          have hws := hbw.out.size
          obtain ⟨E, hE⟩ : ∃ E, wr.heap.size = E := ⟨_, rfl⟩
          rw [hE] at kE hws ⊢
          clear hw4 hE hcv hx1 hx2
          have y0 := kE.out.cell 0
          have y1 := kE.out.cell 1
          have y2 := kE.out.cell 2
          have g0 := kE.out.free 0
          have g1 := kE.out.free 1
          have g2 := kE.out.free 2
          go_wp2_with (first
            | (go_at_call 44; (refine Calls.mono (hc2.out _ hbE.out) ?_); rintro r w5 ⟨rfl, hb5⟩; have hb5' := Lib.hid hb5; clear hb5)
            | (go_at_call 43; (with_reducible refine Calls.mono (numE_any _ _) ?_); rintro e w15 ⟨rfl, rfl⟩)
            | (go_at_call 41; (with_reducible refine Calls.mono (hwk.out _ hb5'.out) ?_); rintro r w6 ⟨rfl, hb6⟩; have hb6' := Lib.hid hb6; clear hb6))
          go_ret
          exact ⟨rfl, hb6'.out⟩
      · rw [show (if i + 0 + 0 ≤ 65536 then (0 : Int) else 2) = 0 from if_pos (by have := hN'.out; omega)] at hc0
        rw [show (if 0 + i + 0 ≤ 65536 then (0 : Int) else 2) = 0 from if_pos (by have := hN'.out; omega)] at hc1
        rw [show (if 1 + 0 + (i - 1) ≤ 65536 then (0 : Int) else 2) = 0 from if_pos (by have := hN'.out; omega)] at hc2
        rcases (show k = 3 ∨ k = 0 ∨ k = 1 ∨ k = 2 by omega) with rfl | rfl | rfl | rfl
        · have hcmw := Lib.hid (hcm.out wr hbw.out)
          unfold CmBd at hcmw
          go_wp2_with fail
          refine hcmw.out.mono ?_
          rintro r w5 ⟨A, m, c, e, rfl, hme, hb5, -, -⟩
          have hb5' := Lib.hid hb5
          obtain ⟨rfl, rfl⟩ : m = i + 4 ∧ e = 0 := by
            have := hN'.out
            rcases hme with h | h
            · exact h.2
            · exact absurd h.1 (by omega)
          have hq : (((i + 4 : Nat) : Int) == (i : Int) + 4) = true := by rw [beq_iff_eq]; rfl
          clear hme hb5 hcv hx1 hx2
          go_wp2_with (first
            | (go_at_call 43; (with_reducible refine Calls.mono (numE_any _ _) ?_); rintro e w15 ⟨rfl, rfl⟩)
            | (go_at_call 41; (with_reducible refine Calls.mono (hwk.out _ hb5'.out) ?_); rintro r w6 ⟨rfl, hb6⟩; have hb6' := Lib.hid hb6; clear hb6))
          go_ret
          exact ⟨rfl, hb6'.out⟩
        · go_wp2_with fail
          go_region
          have kE := Lib.hid (show Has (wr.alloc (.cells #[.string ⟨(aL 1).toArray⟩, .string ⟨#[]⟩, .string ⟨(aL (i - 1)).toArray⟩] 53)).drew wr.heap.size 53 #[.string ⟨(aL 1).toArray⟩, .string ⟨#[]⟩, .string ⟨(aL (i - 1)).toArray⟩] from Has.new _ _ _)
          have hbE := Lib.hid (hbw.out.alloc hbw.out.size (.cells #[.string ⟨(aL 1).toArray⟩, .string ⟨#[]⟩, .string ⟨(aL (i - 1)).toArray⟩] 53)).drew
          obtain ⟨w4, hw4⟩ : ∃ w4, (wr.alloc (.cells #[.string ⟨(aL 1).toArray⟩, .string ⟨#[]⟩, .string ⟨(aL (i - 1)).toArray⟩] 53)).drew = w4 := ⟨_, rfl⟩
          rw [hw4] at kE hbE ⊢
          have hws := hbw.out.size
          obtain ⟨E, hE⟩ : ∃ E, wr.heap.size = E := ⟨_, rfl⟩
          rw [hE] at kE hws ⊢
          clear hw4 hE hcv hx1 hx2
          have y0 := kE.out.cell 0
          have y1 := kE.out.cell 1
          have y2 := kE.out.cell 2
          have g0 := kE.out.free 0
          have g1 := kE.out.free 1
          have g2 := kE.out.free 2
          have kF := Lib.hid (((kE.out.put 0 (.string ⟨(aL i).toArray⟩)).put 1 (.string ⟨#[]⟩)).put 2 (.string ⟨#[]⟩))
          have z0 := kF.out.cell 0
          have z1 := kF.out.cell 1
          have z2 := kF.out.cell 2
          have hbF := Lib.hid (((hbE.out.setCell (p := ⟨E, 0, none⟩) hws (.string ⟨(aL i).toArray⟩)).setCell (p := ⟨E, 1, none⟩) hws (.string ⟨#[]⟩)).setCell (p := ⟨E, 2, none⟩) hws (.string ⟨#[]⟩))
          go_wp2_with (first
            | (go_at_call 44; (refine Calls.mono (hc0.out _ hbF.out) ?_); rintro r w5 ⟨rfl, hb5⟩; have hb5' := Lib.hid hb5; clear hb5)
            | (go_at_call 43; (with_reducible refine Calls.mono (numE_any _ _) ?_); rintro e w15 ⟨rfl, rfl⟩)
            | (go_at_call 41; (with_reducible refine Calls.mono (hwk.out _ hb5'.out) ?_); rintro r w6 ⟨rfl, hb6⟩; have hb6' := Lib.hid hb6; clear hb6))
          go_ret
          exact ⟨rfl, hb6'.out⟩
        · go_wp2_with fail
          go_region
          have kE := Lib.hid (show Has (wr.alloc (.cells #[.string ⟨(aL 1).toArray⟩, .string ⟨#[]⟩, .string ⟨(aL (i - 1)).toArray⟩] 53)).drew wr.heap.size 53 #[.string ⟨(aL 1).toArray⟩, .string ⟨#[]⟩, .string ⟨(aL (i - 1)).toArray⟩] from Has.new _ _ _)
          have hbE := Lib.hid (hbw.out.alloc hbw.out.size (.cells #[.string ⟨(aL 1).toArray⟩, .string ⟨#[]⟩, .string ⟨(aL (i - 1)).toArray⟩] 53)).drew
          obtain ⟨w4, hw4⟩ : ∃ w4, (wr.alloc (.cells #[.string ⟨(aL 1).toArray⟩, .string ⟨#[]⟩, .string ⟨(aL (i - 1)).toArray⟩] 53)).drew = w4 := ⟨_, rfl⟩
          rw [hw4] at kE hbE ⊢
          have hws := hbw.out.size
          obtain ⟨E, hE⟩ : ∃ E, wr.heap.size = E := ⟨_, rfl⟩
          rw [hE] at kE hws ⊢
          clear hw4 hE hcv hx1 hx2
          have y0 := kE.out.cell 0
          have y1 := kE.out.cell 1
          have y2 := kE.out.cell 2
          have g0 := kE.out.free 0
          have g1 := kE.out.free 1
          have g2 := kE.out.free 2
          have kF := Lib.hid (((kE.out.put 0 (.string ⟨#[]⟩)).put 1 (.string ⟨(aL i).toArray⟩)).put 2 (.string ⟨#[]⟩))
          have z0 := kF.out.cell 0
          have z1 := kF.out.cell 1
          have z2 := kF.out.cell 2
          have hbF := Lib.hid (((hbE.out.setCell (p := ⟨E, 0, none⟩) hws (.string ⟨#[]⟩)).setCell (p := ⟨E, 1, none⟩) hws (.string ⟨(aL i).toArray⟩)).setCell (p := ⟨E, 2, none⟩) hws (.string ⟨#[]⟩))
          go_wp2_with (first
            | (go_at_call 44; (refine Calls.mono (hc1.out _ hbF.out) ?_); rintro r w5 ⟨rfl, hb5⟩; have hb5' := Lib.hid hb5; clear hb5)
            | (go_at_call 43; (with_reducible refine Calls.mono (numE_any _ _) ?_); rintro e w15 ⟨rfl, rfl⟩)
            | (go_at_call 41; (with_reducible refine Calls.mono (hwk.out _ hb5'.out) ?_); rintro r w6 ⟨rfl, hb6⟩; have hb6' := Lib.hid hb6; clear hb6))
          go_ret
          exact ⟨rfl, hb6'.out⟩
        · go_wp2_with fail
          go_region
          have kE := Lib.hid (show Has (wr.alloc (.cells #[.string ⟨(aL 1).toArray⟩, .string ⟨#[]⟩, .string ⟨(aL (i - 1)).toArray⟩] 53)).drew wr.heap.size 53 #[.string ⟨(aL 1).toArray⟩, .string ⟨#[]⟩, .string ⟨(aL (i - 1)).toArray⟩] from Has.new _ _ _)
          have hbE := Lib.hid (hbw.out.alloc hbw.out.size (.cells #[.string ⟨(aL 1).toArray⟩, .string ⟨#[]⟩, .string ⟨(aL (i - 1)).toArray⟩] 53)).drew
          obtain ⟨w4, hw4⟩ : ∃ w4, (wr.alloc (.cells #[.string ⟨(aL 1).toArray⟩, .string ⟨#[]⟩, .string ⟨(aL (i - 1)).toArray⟩] 53)).drew = w4 := ⟨_, rfl⟩
          rw [hw4] at kE hbE ⊢
          have hws := hbw.out.size
          obtain ⟨E, hE⟩ : ∃ E, wr.heap.size = E := ⟨_, rfl⟩
          rw [hE] at kE hws ⊢
          clear hw4 hE hcv hx1 hx2
          have y0 := kE.out.cell 0
          have y1 := kE.out.cell 1
          have y2 := kE.out.cell 2
          have g0 := kE.out.free 0
          have g1 := kE.out.free 1
          have g2 := kE.out.free 2
          go_wp2_with (first
            | (go_at_call 44; (refine Calls.mono (hc2.out _ hbE.out) ?_); rintro r w5 ⟨rfl, hb5⟩; have hb5' := Lib.hid hb5; clear hb5)
            | (go_at_call 43; (with_reducible refine Calls.mono (numE_any _ _) ?_); rintro e w15 ⟨rfl, rfl⟩)
            | (go_at_call 41; (with_reducible refine Calls.mono (hwk.out _ hb5'.out) ?_); rintro r w6 ⟨rfl, hb6⟩; have hb6' := Lib.hid hb6; clear hb6))
          go_ret
          exact ⟨rfl, hb6'.out⟩
end Go.Proofs.YtlbiniibkbhghaaDoor
