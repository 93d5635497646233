import Derived.Test.YtbmemkbfignlaaaGreatDoorPk4
import Derived.Deep.Cut
namespace Go.Proofs.YtbmemkbfignlaaaGreatDoor
open Go.RowKit
attribute [local go_sem] Oper.semAt_some

/-! ## The document's Parse (written by gen11g.py) -/
theorem parseTg_no {s : List UInt8} (h : ¬ (s.head? = some 47 ∧ s.all okB = true)) : parseTg s = none := by unfold parseTg; rw [if_neg h]
theorem parseTg_yes {s : List UInt8} (h : s.head? = some 47 ∧ s.all okB = true) : parseTg s = match allL partL (betw 47 ((s.take (atL 63 s)).drop 1)), allL pairL (qsL (betw 38 (s.drop (atL 63 s + 1)))) with
    | some p, some q => some (p, q)
    | _, _ => none := by unfold parseTg; rw [if_pos h]; rfl
theorem decL_len {plus : Bool} : ∀ {s p : List UInt8}, decL plus s = some p → p.length ≤ s.length
  | [], p, h => by
    obtain rfl : [] = p := Option.some.inj h
    exact Nat.le_refl _
  | [c], p, h => by
    by_cases hc : c = 37
    · subst hc; rw [decL_short plus (by simp)] at h; cases h
    · rw [decL_other plus _ hc] at h
      obtain ⟨q, hq, rfl⟩ := Option.map_eq_some_iff.1 h
      have := decL_len hq
      simpa using this
  | [c, d], p, h => by
    by_cases hc : c = 37
    · subst hc; rw [decL_short plus (by simp)] at h; cases h
    · rw [decL_other plus _ hc] at h
      obtain ⟨q, hq, rfl⟩ := Option.map_eq_some_iff.1 h
      have := decL_len hq
      simpa using this
  | c :: a :: b :: r, p, h => by
    by_cases hc : c = 37
    · subst hc
      rw [decL_pct] at h
      split at h
      · cases h
      · obtain ⟨q, hq, rfl⟩ := Option.map_eq_some_iff.1 h
        have := decL_len hq
        simp; omega
    · rw [decL_other plus _ hc] at h
      obtain ⟨q, hq, rfl⟩ := Option.map_eq_some_iff.1 h
      have := decL_len hq
      simpa using this
theorem Has.grownS {W W' : World} {k n0 : Nat} {cs : Array Value} {v : Value} {l : List (List UInt8)} (h : Has W k 32 cs) (hs : Strs W n0 v l) (hg : W.grownBy W' v.ownBlock) : Has W' k 32 cs := grown_str h hs hg (by decide)
theorem Has.grownP {W W' : World} {k n0 : Nat} {cs : Array Value} {v : Value} {l : List PairL} (h : Has W k 32 cs) (hs : PrsO W n0 v l) (hg : W.grownBy W' v.ownBlock) : Has W' k 32 cs :=
  (hg.block k h.lt (fun e => by
    obtain ⟨_, cs', hc⟩ := hs.own k e.symm
    have e1 : W.heap[k]? = some (.cells cs 32 (0, 0)) := h
    have e2 : W.heap[k]? = some (.cells cs' 88 (0, 0)) := hc
    rw [e1] at e2
    injection Option.some.inj e2 with _ h2 _
    exact absurd h2 (by decide))).trans h
theorem okB_parts {c : UInt8} (h : okB c = true) : 33 ≤ c.toNat ∧ c.toNat ≤ 126 ∧ c ≠ 35 := by
  unfold okB at h
  simp only [Bool.and_eq_true, decide_eq_true_eq] at h
  exact ⟨h.1.1, h.1.2, h.2⟩
theorem Strs.tx {W : World} {n0 n c : Nat} {A : Option Addr} {l : List (List UInt8)} (h : Strs W n0 (.slice A n c) l) : Txs W A l ∧ ∀ b o, A = some ⟨b, o, none⟩ → n0 ≤ b := by
  obtain ⟨A', c', hv, h1, h2⟩ := h.txs
  injection hv with h3 _ _
  subst h3
  exact ⟨h1, h2⟩
theorem PrsO.pr {W : World} {n0 n c : Nat} {A : Option Addr} {l : List PairL} (h : PrsO W n0 (.slice A n c) l) : Prs W A l := by
  obtain ⟨A', c', hv, h1⟩ := h.prs
  injection hv with h3 _ _
  subst h3
  exact h1
theorem head_at {s : List UInt8} (h0 : 0 < s.length) : s.head? = some s[0] := by
  cases s with
  | nil => simp at h0
  | cons b r => rfl
set_option maxRecDepth 100000 in
set_option maxHeartbeats 8000000 in
theorem refParse_no (s : List UInt8) (w : World) (hs : s.length ≤ 50000) (hnot : ¬ (s.head? = some 47 ∧ s.all okB = true)) : Calls Tryz.prog 34 #[.string ⟨s.toArray⟩] w (ParseR (parseTg s) w) := by
  have hnew1 := Has.new w 32 #[.slice none 0 0, .slice none 0 0]
  have hal1 := (Below.refl w.heap.size w).alloc (Nat.le_refl _) (.cells #[.slice none 0 0, .slice none 0 0] 32)
  have hz1 : (w.alloc (.cells #[.slice none 0 0, .slice none 0 0] 32)).heap.size = w.heap.size + 1 := by simp
  obtain ⟨w1, hw1⟩ : ∃ X, w.alloc (.cells #[.slice none 0 0, .slice none 0 0] 32) = X := ⟨_, rfl⟩
  rw [hw1] at hnew1 hal1 hz1
  replace hz1 : w.heap.size < w1.heap.size := by omega
  have hw1' := Lib.hid hw1
  have hR1 := Lib.hid hnew1
  have hB1 := Lib.hid hal1
  clear hw1 hnew1 hal1
  have c10 : w1.cell? ⟨w.heap.size, 0, none⟩ = some (.slice none 0 0) := hR1.out.cell 0
  have c11 : w1.cell? ⟨w.heap.size, 1, none⟩ = some (.slice none 0 0) := hR1.out.cell 1
  have f10 := hR1.out.free 0
  have f11 := hR1.out.free 1
  rcases Nat.eq_zero_or_pos s.length with hl0 | hl0
  · obtain rfl : s = [] := List.eq_nil_of_length_eq_zero hl0
    have hno := Lib.hid (parseTg_no (s := []) hnot)
    rw [hno.out]
    unfold ParseR
    go_enter Tryz.func34, Tryz.ntmps34
    go_upto_region 1 with (fail)
    rw [hw1'.out]
    go_wp2
    have y0 : ∀ a b, ((w1.setCell ⟨w.heap.size, 0, none⟩ a).setCell ⟨w.heap.size, 1, none⟩ b).cell? ⟨w.heap.size, 0, none⟩ = some a := fun a b => ((hR1.out.put 0 a).put 1 b).cell 0
    have y1 : ∀ a b, ((w1.setCell ⟨w.heap.size, 0, none⟩ a).setCell ⟨w.heap.size, 1, none⟩ b).cell? ⟨w.heap.size, 1, none⟩ = some b := fun a b => ((hR1.out.put 0 a).put 1 b).cell 1
    refine bodyPost_ret (v := tgV0) (by simp only [results, Tryz.results34]; simp [go_sem, y0, y1]; rfl) rfl ⟨rfl, (hB1.out.setCell (p := ⟨w.heap.size, 0, none⟩) (Nat.le_refl _) _).setCell (p := ⟨w.heap.size, 1, none⟩) (Nat.le_refl _) _⟩
  · have e00 : ((s.length : Int) == 0) = false := by rw [beq_eq_false_iff_ne]; omega
    by_cases h47 : s[0] = 47
    · have e0 : ((((⟨s.toArray⟩ : ByteArray)[0]'hl0).toNat : Int) == 47) = true := by rw [byte_eq s hl0 47 47 rfl, h47]; rfl
      go_enter Tryz.func34, Tryz.ntmps34
      go_upto_region 1 with (fail)
      rw [hw1'.out]
      go_wp2
      go_loopw [4] (fun x W => ∃ i : Nat, i ≤ s.length ∧ x = .int .i64 (i : Int) ∧ s.all okB = (s.drop i).all okB ∧ W = w1) (fun x _ => s.length - (intOf x).toNat)
      case atStart => exact ⟨0, Nat.zero_le _, rfl, by simp, rfl⟩
      case round =>
        obtain ⟨i, hil, rfl, hat, hW1⟩ := hrel
        obtain rfl := hW1
        by_cases hlt : i < s.length
        · have hltI : (i : Int) < (s.length : Int) := by omega
          rw [drop_at s hlt, List.all_cons] at hat
          have e35 := byte_eq s hlt 35 35 rfl
          have hbad : okB s[i] = false → parseTg s = none := fun h => parseTg_no hnot
          have hcs : s[i].toNat < 33 ∨ (33 ≤ s[i].toNat ∧ 126 < s[i].toNat) ∨ (33 ≤ s[i].toNat ∧ s[i].toNat ≤ 126 ∧ s[i] = 35) ∨ (33 ≤ s[i].toNat ∧ s[i].toNat ≤ 126 ∧ s[i] ≠ 35) := by
            by_cases h : s[i] = 35 <;> simp [h] <;> omega
          rcases hcs with hc | ⟨hc1, hc⟩ | ⟨hc1, hc2, hc⟩ | ⟨hc1, hc2, hc⟩
          · have k1 : (((⟨s.toArray⟩ : ByteArray)[i]'hlt).toNat : Int) < 33 := by show ((s[i].toNat : Nat) : Int) < 33; omega
            have hno := Lib.hid (hbad (by unfold okB; simp; omega))
            rw [hno.out]
            unfold ParseR
            clear hat hbad e35 hc
            go_wp2
            have y0 : ∀ a b, ((wr.setCell ⟨w.heap.size, 0, none⟩ a).setCell ⟨w.heap.size, 1, none⟩ b).cell? ⟨w.heap.size, 0, none⟩ = some a := fun a b => ((hR1.out.put 0 a).put 1 b).cell 0
            have y1 : ∀ a b, ((wr.setCell ⟨w.heap.size, 0, none⟩ a).setCell ⟨w.heap.size, 1, none⟩ b).cell? ⟨w.heap.size, 1, none⟩ = some b := fun a b => ((hR1.out.put 0 a).put 1 b).cell 1
            refine bodyPost_ret (v := tgV0) (by simp only [results, Tryz.results34]; simp [go_sem, y0, y1]; rfl) rfl ⟨rfl, (hB1.out.setCell (p := ⟨w.heap.size, 0, none⟩) (Nat.le_refl _) _).setCell (p := ⟨w.heap.size, 1, none⟩) (Nat.le_refl _) _⟩
          · have k1 : ¬ (((⟨s.toArray⟩ : ByteArray)[i]'hlt).toNat : Int) < 33 := by show ¬ ((s[i].toNat : Nat) : Int) < 33; omega
            have k2 : (126 : Int) < (((⟨s.toArray⟩ : ByteArray)[i]'hlt).toNat : Int) := by show (126 : Int) < ((s[i].toNat : Nat) : Int); omega
            have hno := Lib.hid (hbad (by unfold okB; simp; omega))
            rw [hno.out]
            unfold ParseR
            clear hat hbad e35 hc hc1
            go_wp2
            have y0 : ∀ a b, ((wr.setCell ⟨w.heap.size, 0, none⟩ a).setCell ⟨w.heap.size, 1, none⟩ b).cell? ⟨w.heap.size, 0, none⟩ = some a := fun a b => ((hR1.out.put 0 a).put 1 b).cell 0
            have y1 : ∀ a b, ((wr.setCell ⟨w.heap.size, 0, none⟩ a).setCell ⟨w.heap.size, 1, none⟩ b).cell? ⟨w.heap.size, 1, none⟩ = some b := fun a b => ((hR1.out.put 0 a).put 1 b).cell 1
            refine bodyPost_ret (v := tgV0) (by simp only [results, Tryz.results34]; simp [go_sem, y0, y1]; rfl) rfl ⟨rfl, (hB1.out.setCell (p := ⟨w.heap.size, 0, none⟩) (Nat.le_refl _) _).setCell (p := ⟨w.heap.size, 1, none⟩) (Nat.le_refl _) _⟩
          · have k1 : ¬ (((⟨s.toArray⟩ : ByteArray)[i]'hlt).toNat : Int) < 33 := by show ¬ ((s[i].toNat : Nat) : Int) < 33; omega
            have k2 : ¬ (126 : Int) < (((⟨s.toArray⟩ : ByteArray)[i]'hlt).toNat : Int) := by show ¬ (126 : Int) < ((s[i].toNat : Nat) : Int); omega
            rw [beq_iff_eq.2 hc] at e35
            have hno := Lib.hid (hbad (by unfold okB; simp [hc]))
            rw [hno.out]
            unfold ParseR
            clear hat hbad hc hc1 hc2
            go_wp2
            have y0 : ∀ a b, ((wr.setCell ⟨w.heap.size, 0, none⟩ a).setCell ⟨w.heap.size, 1, none⟩ b).cell? ⟨w.heap.size, 0, none⟩ = some a := fun a b => ((hR1.out.put 0 a).put 1 b).cell 0
            have y1 : ∀ a b, ((wr.setCell ⟨w.heap.size, 0, none⟩ a).setCell ⟨w.heap.size, 1, none⟩ b).cell? ⟨w.heap.size, 1, none⟩ = some b := fun a b => ((hR1.out.put 0 a).put 1 b).cell 1
            refine bodyPost_ret (v := tgV0) (by simp only [results, Tryz.results34]; simp [go_sem, y0, y1]; rfl) rfl ⟨rfl, (hB1.out.setCell (p := ⟨w.heap.size, 0, none⟩) (Nat.le_refl _) _).setCell (p := ⟨w.heap.size, 1, none⟩) (Nat.le_refl _) _⟩
          · have k1 : ¬ (((⟨s.toArray⟩ : ByteArray)[i]'hlt).toNat : Int) < 33 := by show ¬ ((s[i].toNat : Nat) : Int) < 33; omega
            have k2 : ¬ (126 : Int) < (((⟨s.toArray⟩ : ByteArray)[i]'hlt).toNat : Int) := by show ¬ (126 : Int) < ((s[i].toNat : Nat) : Int); omega
            rw [beq_eq_false_iff_ne.2 hc] at e35
            have hat' := Lib.hid (hat.trans (show _ = (s.drop (i + 1)).all okB by unfold okB; simp [hc, hc1, hc2]))
            clear hat hbad hc hc1 hc2
            go_wp2
            exact ⟨⟨i + 1, by omega, by go_num, hat'.out, trivial⟩, by simp [intOf]; omega⟩
        · obtain rfl : i = s.length := by omega
          rw [List.drop_length] at hat
          exact absurd ⟨by rw [head_at hl0, h47], hat⟩ hnot
    · have e0 : ((((⟨s.toArray⟩ : ByteArray)[0]'hl0).toNat : Int) == 47) = false := by rw [byte_eq s hl0 47 47 rfl]; exact beq_eq_false_iff_ne.2 h47
      have hno := Lib.hid (parseTg_no (s := s) (by rw [head_at hl0]; rintro ⟨h, _⟩; exact h47 (Option.some.inj h)))
      rw [hno.out]
      unfold ParseR
      go_enter Tryz.func34, Tryz.ntmps34
      go_upto_region 1 with (fail)
      rw [hw1'.out]
      go_wp2
      have y0 : ∀ a b, ((w1.setCell ⟨w.heap.size, 0, none⟩ a).setCell ⟨w.heap.size, 1, none⟩ b).cell? ⟨w.heap.size, 0, none⟩ = some a := fun a b => ((hR1.out.put 0 a).put 1 b).cell 0
      have y1 : ∀ a b, ((w1.setCell ⟨w.heap.size, 0, none⟩ a).setCell ⟨w.heap.size, 1, none⟩ b).cell? ⟨w.heap.size, 1, none⟩ = some b := fun a b => ((hR1.out.put 0 a).put 1 b).cell 1
      refine bodyPost_ret (v := tgV0) (by simp only [results, Tryz.results34]; simp [go_sem, y0, y1]; rfl) rfl ⟨rfl, (hB1.out.setCell (p := ⟨w.heap.size, 0, none⟩) (Nat.le_refl _) _).setCell (p := ⟨w.heap.size, 1, none⟩) (Nat.le_refl _) _⟩
set_option maxRecDepth 100000 in
set_option maxHeartbeats 8000000 in
theorem refParse_q (s : List UInt8) (w : World) (hs : s.length ≤ 50000) (hl0 : 0 < s.length) (h47 : s[0] = 47) (hall : Hid (∀ c ∈ s, okB c = true)) (hnl : Hid (atL 63 s < s.length)) : Calls Tryz.prog 34 #[.string ⟨s.toArray⟩] w (ParseR (parseTg s) w) := by
  have hnew1 := Has.new w 32 #[.slice none 0 0, .slice none 0 0]
  have hal1 := (Below.refl w.heap.size w).alloc (Nat.le_refl _) (.cells #[.slice none 0 0, .slice none 0 0] 32)
  have hz1 : (w.alloc (.cells #[.slice none 0 0, .slice none 0 0] 32)).heap.size = w.heap.size + 1 := by simp
  obtain ⟨w1, hw1⟩ : ∃ X, w.alloc (.cells #[.slice none 0 0, .slice none 0 0] 32) = X := ⟨_, rfl⟩
  rw [hw1] at hnew1 hal1 hz1
  replace hz1 : w.heap.size < w1.heap.size := by omega
  have hw1' := Lib.hid hw1
  have hR1 := Lib.hid hnew1
  have hB1 := Lib.hid hal1
  clear hw1 hnew1 hal1
  have c10 : w1.cell? ⟨w.heap.size, 0, none⟩ = some (.slice none 0 0) := hR1.out.cell 0
  have c11 : w1.cell? ⟨w.heap.size, 1, none⟩ = some (.slice none 0 0) := hR1.out.cell 1
  have f10 := hR1.out.free 0
  have f11 := hR1.out.free 1
  have e00 : ((s.length : Int) == 0) = false := by rw [beq_eq_false_iff_ne]; omega
  have e0 : ((((⟨s.toArray⟩ : ByteArray)[0]'hl0).toNat : Int) == 47) = true := by rw [byte_eq s hl0 47 47 rfl, h47]; rfl
  go_enter Tryz.func34, Tryz.ntmps34
  go_upto_region 1 with (fail)
  rw [hw1'.out]
  go_wp2
  go_loopw [4] (fun x W => ∃ i : Nat, i ≤ s.length ∧ x = .int .i64 (i : Int) ∧ W = w1) (fun x _ => s.length - (intOf x).toNat)
  case atStart => exact ⟨0, Nat.zero_le _, rfl, rfl⟩
  case round =>
    obtain ⟨i, hil, rfl, hW1⟩ := hrel
    obtain rfl := hW1
    by_cases hlt : i < s.length
    · have hltI : (i : Int) < (s.length : Int) := by omega
      obtain ⟨hc1, hc2, hc⟩ := okB_parts (hall.out _ (List.getElem_mem hlt))
      have e35 := byte_eq s hlt 35 35 rfl
      have k1 : ¬ (((⟨s.toArray⟩ : ByteArray)[i]'hlt).toNat : Int) < 33 := by show ¬ ((s[i].toNat : Nat) : Int) < 33; omega
      have k2 : ¬ (126 : Int) < (((⟨s.toArray⟩ : ByteArray)[i]'hlt).toNat : Int) := by show ¬ (126 : Int) < ((s[i].toNat : Nat) : Int); omega
      rw [beq_eq_false_iff_ne.2 hc] at e35
      clear hc hc1 hc2
      go_wp2
      exact ⟨⟨i + 1, by omega, by go_num, trivial⟩, by simp [intOf]; omega⟩
    · obtain rfl : i = s.length := by omega
      have hfin := Lib.hid (parseTg_yes (s := s) ⟨by rw [head_at hl0, h47], List.all_eq_true.2 hall.out⟩)
      have hn1 : 1 ≤ atL 63 s := by
        cases s with
        | nil => simp at hl0
        | cons b r =>
          have hb : b = 47 := h47
          rw [hb, atL, if_neg (by decide)]; omega
      have h0 := Lib.hid (fun W => show Calls Tryz.prog 57 #[.string ⟨s.toArray⟩, .int .u8 63] W fun e w' => e = .returned (.int .i64 (atL 63 s : Int)) ∧ w' = W from refAt_any s 63 W (by omega))
      have hle := atL_le 63 s
      generalize atL 63 s = n at *
      have hnk := hnl.out
      have hlsmany := Lib.hid (show (betw 47 ((s.take n).drop 1)).length ≤ 100000 by rw [betw_parts]; have := partsG_many 47 ((s.take n).drop 1); rw [List.length_drop, List.length_take] at this; omega)
      have hlslen := Lib.hid (show ∀ q ∈ betw 47 ((s.take n).drop 1), q.length ≤ 50000 from fun q hq => by have := betw_all hq; rw [List.length_drop, List.length_take] at this; omega)
      have hlsne := betw_ne 47 ((s.take n).drop 1)
      have hbt1 := Lib.hid (fun W => show Calls Tryz.prog 58 #[.string ((⟨s.toArray⟩ : ByteArray).extract 1 n), .int .u8 47] W (StrsR (betw 47 ((s.take n).drop 1)) W) by rw [cut_str]; exact refBetween_any _ 47 W (by simp; omega))
      unfold StrsR at hbt1
      obtain ⟨ls, hls⟩ : ∃ ls, betw 47 ((s.take n).drop 1) = ls := ⟨_, rfl⟩
      rw [hls] at hfin hlsmany hlslen hlsne hbt1
      have hleI : (n : Int) ≤ (s.length : Int) := by omega
      have hn1I : (1 : Int) ≤ (n : Int) := by omega
      clear hls hlt e0 h47
      have alT := Lib.hid ((Below.refl wr.heap.size wr).alloc (Nat.le_refl _) (.cells #[.slice none 0 0, .slice none 0 0] 32))
      have nwT := Lib.hid (Has.new wr 32 #[.slice none 0 0, .slice none 0 0])
      have zT : (wr.alloc (.cells #[.slice none 0 0, .slice none 0 0] 32)).heap.size = wr.heap.size + 1 := by simp
      have zT' := Lib.hid zT
      clear zT
      go_wp2_with (first
        | (go_at_call 57; (with_reducible refine Calls.mono (h0.out _) ?_); rintro e w9 ⟨rfl, hw9⟩; obtain rfl := hw9.symm)
        | (go_at_call 58; (with_reducible refine Calls.mono (hbt1.out _) ?_); rintro e w3 ⟨v3, rfl, hst3, hb3⟩; obtain ⟨A3, c3, hv3, _⟩ := hst3.txs; subst hv3; have hb3' := Lib.hid hb3; have hst3' := Lib.hid hst3; clear hb3 hst3))
      have hst3 := hst3'.out
      obtain ⟨htx3, hA3⟩ := hst3.tx
      obtain ⟨b3, o3, rfl, hb3l, hcell3⟩ := htx3 (List.length_pos_iff.2 hlsne)
      have hb3n : b3 ≠ wr.heap.size := by have := hA3 b3 o3 rfl; have := zT'.out; omega
      have hcell3' := Lib.hid hcell3
      have hz3 : wr.heap.size < w3.heap.size := by have := hb3'.out.size; have := zT'.out; omega
      have hB3 := Lib.hid (hB1.out.trans ((alT.out.trans (hb3'.out.mono (by have := zT'.out; omega))).mono (by omega)))
      have hR3 := Lib.hid ((hR1.out.below alT.out hR1.out.lt).below hb3'.out (by have := zT'.out; omega))
      have hT3 := Lib.hid (nwT.out.below hb3'.out (by have := zT'.out; omega))
      clear htx3 hA3 hst3 hst3' hcell3 hb3' alT nwT zT' hbt1 h0 hlsne
      obtain ⟨w1, hW1⟩ : ∃ X, X = wr := ⟨_, rfl⟩
      obtain rfl := hW1
      go_loopw [8] (fun x W => ∃ (done : List (List UInt8)) (i : Nat) (v : Value), i ≤ ls.length ∧ x = .int .i64 (i : Int) ∧ Has W w1.heap.size 32 #[v, .slice none 0 0] ∧ Strs W w3.heap.size v done ∧ Grew w1.heap.size w3 W ∧ done.length = i ∧ allL partL ls = (allL partL (ls.drop i)).map (done ++ ·)) (fun x _ => ls.length - (intOf x).toNat)
      case atStart => exact ⟨[], 0, _, Nat.zero_le _, rfl, hT3.out, strs_nil _ _, Grew.refl _ _, rfl, by rw [List.drop_zero]; exact allL_start _ _⟩
      case round =>
        obtain ⟨done, i, v, hil, rfl, hT, hst, hG, hdl, hall2⟩ := hrel
        have hlsb := hlsmany.out
        obtain ⟨A2, c2, hv2, htx2, hA2⟩ := hst.txs
        subst hv2
        have hG' := Lib.hid hG
        have hz2 := hG.size
        have hB := Lib.hid (hB3.out.trans (hG.below (B := w.heap.size) (by omega) (by omega)))
        have hR := Lib.hid (hG.has hR3.out (by omega))
        have hst' := Lib.hid hst
        rw [hdl] at hT
        have hT' := Lib.hid hT
        have hdl' := Lib.hid hdl
        by_cases hlt : i < ls.length
        · have hltI : (i : Int) < (ls.length : Int) := by omega
          have ck : wr.cell? ⟨b3, o3 + i, none⟩ = some (.string ⟨ls[i].toArray⟩) := (World.cell?_of_block (hG.block b3 hb3l hb3n)).trans (hcell3'.out i _ (List.getElem?_eq_getElem hlt))
          have hyl := hlslen.out _ (List.getElem_mem hlt)
          have hdrop : ls.drop i = ls[i] :: ls.drop (i + 1) := List.drop_eq_getElem_cons hlt
          rw [hdrop] at hall2
          clear hT hst hG hdl htx2 hdrop hA2
          generalize ls[i] = y at *
          have hdc := Lib.hid (fun W => refDecode_any false y W (by omega))
          unfold DecR at hdc
          have hfail : ∀ {x : Option (List UInt8)}, partL y = none → parseTg s = none := fun h => hfin.out.trans (by rw [hall2, allL_stop h])
          cases hde : decL false y with
          | none =>
            rw [hde] at hdc
            simp only [decV] at hdc
            have hno := Lib.hid (hfail (x := none) (by unfold partL; rw [hde]))
            rw [hno.out]
            unfold ParseR
            clear hall2 hde hst' hfail
            go_upto_region 15 with (go_at_call 59; (with_reducible refine Calls.mono (hdc.out _) ?_); rintro e w4 ⟨rfl, hb4⟩; have hB4 := Lib.hid (hB.out.trans (hb4.mono (by omega))); have hR4 := (hR.out.below hb4 hR.out.lt); have c40 : w4.cell? ⟨w.heap.size, 0, none⟩ = some (.slice none 0 0) := hR4.cell 0; have c41 : w4.cell? ⟨w.heap.size, 1, none⟩ = some (.slice none 0 0) := hR4.cell 1; have f40 := hR4.free 0; have f41 := hR4.free 1; have hR4' := Lib.hid hR4; clear hR4 hb4)
            go_wp2
            have y0 : ∀ a b, ((w4.setCell ⟨w.heap.size, 0, none⟩ a).setCell ⟨w.heap.size, 1, none⟩ b).cell? ⟨w.heap.size, 0, none⟩ = some a := fun a b => ((hR4'.out.put 0 a).put 1 b).cell 0
            have y1 : ∀ a b, ((w4.setCell ⟨w.heap.size, 0, none⟩ a).setCell ⟨w.heap.size, 1, none⟩ b).cell? ⟨w.heap.size, 1, none⟩ = some b := fun a b => ((hR4'.out.put 0 a).put 1 b).cell 1
            refine bodyPost_ret (v := tgV0) (by simp only [results, Tryz.results34]; simp [go_sem, y0, y1]; rfl) rfl ⟨rfl, (hB4.out.setCell (p := ⟨w.heap.size, 0, none⟩) (Nat.le_refl _) _).setCell (p := ⟨w.heap.size, 1, none⟩) (Nat.le_refl _) _⟩
          | some p =>
            rw [hde] at hdc
            simp only [decV] at hdc
            have hpl := decL_len hde
            have hpt := Lib.hid (fun W => refPart_any p W (by omega))
            cases hpb : partB p with
            | false =>
              rw [hpb] at hpt
              have hno := Lib.hid (hfail (x := none) (by unfold partL; rw [hde]; simp [hpb]))
              rw [hno.out]
              unfold ParseR
              clear hall2 hde hst' hfail
              go_wp2_with (first
                | (go_at_call 59; (with_reducible refine Calls.mono (hdc.out _) ?_); rintro e w4 ⟨rfl, hb4⟩; have hB4 := Lib.hid (hB.out.trans (hb4.mono (by omega))); have hR4 := (hR.out.below hb4 hR.out.lt); have c40 : w4.cell? ⟨w.heap.size, 0, none⟩ = some (.slice none 0 0) := hR4.cell 0; have c41 : w4.cell? ⟨w.heap.size, 1, none⟩ = some (.slice none 0 0) := hR4.cell 1; have f40 := hR4.free 0; have f41 := hR4.free 1; have hR4' := Lib.hid hR4; clear hR4 hb4)
                | (go_at_call 60; (with_reducible refine Calls.mono (hpt.out _) ?_); rintro e w9 ⟨rfl, hw9⟩; obtain rfl := hw9.symm))
              have y0 : ∀ a b, ((w4.setCell ⟨w.heap.size, 0, none⟩ a).setCell ⟨w.heap.size, 1, none⟩ b).cell? ⟨w.heap.size, 0, none⟩ = some a := fun a b => ((hR4'.out.put 0 a).put 1 b).cell 0
              have y1 : ∀ a b, ((w4.setCell ⟨w.heap.size, 0, none⟩ a).setCell ⟨w.heap.size, 1, none⟩ b).cell? ⟨w.heap.size, 1, none⟩ = some b := fun a b => ((hR4'.out.put 0 a).put 1 b).cell 1
              refine bodyPost_ret (v := tgV0) (by simp only [results, Tryz.results34]; simp [go_sem, y0, y1]; rfl) rfl ⟨rfl, (hB4.out.setCell (p := ⟨w.heap.size, 0, none⟩) (Nat.le_refl _) _).setCell (p := ⟨w.heap.size, 1, none⟩) (Nat.le_refl _) _⟩
            | true =>
              rw [hpb] at hpt
              have hall2' := Lib.hid (hall2.trans (allL_step (done := done) (r := ls.drop (i + 1)) (show partL y = some p by unfold partL; rw [hde]; simp [hpb])))
              clear hall2 hde hfail
              go_wp2_with (first
                | (go_at_call 59; (with_reducible refine Calls.mono (hdc.out _) ?_); rintro e w4 ⟨rfl, hb4⟩; have hT4 := hT'.out.below hb4 hT'.out.lt; have t40 : w4.cell? ⟨w1.heap.size, 0, none⟩ = some (.slice A2 i c2) := hT4.cell 0; have al4 := (Below.refl w4.heap.size w4).alloc (Nat.le_refl _) (.cells #[.string ⟨p.toArray⟩] 9); have hstA0 := (hst'.out.below hb4).below al4; rw [hdl'.out] at hstA0; have hstA := Lib.hid hstA0; have hTA := Lib.hid (hT4.below al4 hT4.lt); have hGA := Lib.hid ((hG'.out.trans (Grew.of_below hb4)).trans (Grew.of_below al4)); have hnewA := Lib.hid (Has.new w4 9 #[.string ⟨p.toArray⟩]); have hzA := hGA.out.size; clear hb4 hT4 al4 hstA0)
                | (go_at_call 60; (with_reducible refine Calls.mono (hpt.out _) ?_); rintro e w9 ⟨rfl, hw9⟩; obtain rfl := hw9.symm)
                | (at_builtin; refine wpList_append_str rfl _ _ rfl rfl hstA.out _ p rfl hnewA.out (by have := hlsmany.out; have := hdl'.out; omega) hzA ?_; intro v10 w10 ho10 hg10; obtain ⟨A10, c10, hv10, _⟩ := ho10.txs; obtain ⟨n10, hn10⟩ : ∃ n10, (done ++ [p]).length = n10 := ⟨_, rfl⟩; rw [hn10] at hv10; subst hv10; have hn10' := Lib.hid hn10; clear hn10; have hT10 := hTA.out.grownS hstA.out hg10; have t10 : w10.cell? ⟨w1.heap.size, 0, none⟩ = some (.slice A2 i c2) := hT10.cell 0; have t11 := hT10.free 0; have hT10' := Lib.hid hT10; have ho10' := Lib.hid ho10; have hg10' := Lib.hid hg10; clear ho10 hg10 hT10))
              have hG10 := (hGA.out.grown hg10'.out (fun k e => (hstA.out.own k e).1)).setT 0 (.slice A10 n10 c10)
              exact ⟨⟨done ++ [p], i + 1, _, by omega, by go_num, hT10'.out.put 0 (.slice A10 n10 c10), (ho10'.out.grew ((Grew.refl w1.heap.size w10).setT 0 (.slice A10 n10 c10)) (by omega)), hG10, by rw [List.length_append, List.length_singleton, hdl'.out], hall2'.out⟩, by simp [intOf]; omega⟩
        · obtain rfl : i = ls.length := by omega
          rw [List.drop_length] at hall2
          have hpath := Lib.hid (show allL partL ls = some done by rw [hall2]; exact allL_end done)
          rw [hpath.out] at hfin
          have hT2 := Lib.hid (show Has wr w1.heap.size 32 #[.slice A2 done.length c2, .slice none 0 0] by rw [hdl]; exact hT)
          have hB2 := hB
          have hR2 := hR
          have hst2 := hst'
          clear hall2 hpath hT hst hG hT' htx2 hA2 hB hR hst' hdl hdl' hG' hcell3' hb3n
          obtain ⟨W2, hW2⟩ : ∃ X, X = wr := ⟨_, rfl⟩
          obtain rfl := hW2
          generalize done = path at *
          have hqmany := Lib.hid (show (betw 38 (s.drop (n + 1))).length ≤ 100000 by rw [betw_parts]; have := partsG_many 38 (s.drop (n + 1)); rw [List.length_drop] at this; omega)
          have hqlen := Lib.hid (show ∀ q ∈ betw 38 (s.drop (n + 1)), q.length ≤ 50000 from fun q hq => by have := betw_all hq; rw [List.length_drop] at this; omega)
          have hqne := Lib.hid (betw_ne 38 (s.drop (n + 1)))
          obtain ⟨qs, hqs⟩ : ∃ qs, betw 38 (s.drop (n + 1)) = qs := ⟨_, rfl⟩
          rw [hqs] at hfin hqmany hqlen hqne
          have hnI : (n : Int) + 1 ≤ (s.length : Int) := by omega

          have hbt2 := Lib.hid (fun W => show Calls Tryz.prog 58 #[.string ((⟨s.toArray⟩ : ByteArray).extract (n + 1) s.length), .int .u8 38] W (StrsR qs W) by rw [cut_from, ← hqs]; exact refBetween_any _ 38 W (by simp; omega))
          unfold StrsR at hbt2
          go_wp2_with (go_at_call 58; (with_reducible refine Calls.mono (hbt2.out _) ?_); rintro e w7 ⟨v7, rfl, hst7, hb7⟩; obtain ⟨A7, c7, hv7, _⟩ := hst7.txs; subst hv7; have hb7' := Lib.hid hb7; have hst7' := Lib.hid hst7; clear hb7 hst7)
          have hst7 := hst7'.out
          clear hst7'
          have hz7 := hb7'.out.size
          have hB7 := Lib.hid (hB2.out.trans (hb7'.out.mono (by omega)))
          have hR7 := Lib.hid (hR2.out.below hb7'.out hR2.out.lt)
          have hT7' := Lib.hid (hT2.out.below hb7'.out hT2.out.lt)
          have hst7' := Lib.hid (hst2.out.below hb7'.out)
          clear hT2 hR2 hB2 hst2 hbt2 hb7'

          obtain ⟨htx7, hA7⟩ := hst7.tx
          have hq0 : 0 < qs.length := List.length_pos_iff.2 hqne.out
          obtain ⟨b7, o7, rfl, hb7l, hcell7⟩ := htx7 hq0
          have hb7n : b7 ≠ w1.heap.size := by have := hA7 b7 o7 rfl; omega
          have hcell7' := Lib.hid hcell7
          have hq0' := Lib.hid hq0
          clear htx7 hA7 hst7 hq0 hcell7
          go_loopw [12] (fun x W => ∃ (done : List PairL) (i : Nat) (v : Value), i ≤ qs.length ∧ x = .int .i64 (i : Int) ∧ Has W w1.heap.size 32 #[.slice A2 path.length c2, v] ∧ PrsO W w7.heap.size v done ∧ Grew w1.heap.size w7 W ∧ done.length ≤ i ∧ allL pairL (qsL qs) = (allL pairL (qsL (qs.drop i))).map (done ++ ·)) (fun x _ => qs.length - (intOf x).toNat)
          case atStart => exact ⟨[], 0, _, Nat.zero_le _, rfl, hT7'.out, prsO_nil _ _, Grew.refl _ _, Nat.le_refl _, by rw [List.drop_zero]; exact allL_start _ _⟩
          case round =>
            obtain ⟨done, i, v, hil, rfl, hT, hpo, hG, hdl, hall3⟩ := hrel
            have hqsb := hqmany.out
            obtain ⟨A8, c8, hv8, hpr8⟩ := hpo.prs
            subst hv8
            have hG' := Lib.hid hG
            have hz8 := hG.size
            have hB := Lib.hid (hB7.out.trans (hG.below (B := w.heap.size) (by omega) (by omega)))
            have hR := Lib.hid (hG.has hR7.out (by omega))
            have hst := Lib.hid (hst7'.out.grew hG (by omega))
            have hpo' := Lib.hid hpo
            have hT' := Lib.hid hT
            obtain ⟨nd, hnd⟩ : ∃ nd, done.length = nd := ⟨_, rfl⟩
            have hnd' := Lib.hid hnd
            rw [hnd] at hdl hT'
            by_cases hlt : i < qs.length
            · have hltI : (i : Int) < (qs.length : Int) := by omega
              have ck : wr.cell? ⟨b7, o7 + i, none⟩ = some (.string ⟨qs[i].toArray⟩) := (World.cell?_of_block (hG.block b7 hb7l hb7n)).trans (hcell7'.out i _ (List.getElem?_eq_getElem hlt))
              have hyl := hqlen.out _ (List.getElem_mem hlt)
              have hdrop : qs.drop i = qs[i] :: qs.drop (i + 1) := List.drop_eq_getElem_cons hlt
              rw [hdrop] at hall3
              clear hT hpo hG hnd hpr8 hdrop
              generalize qs[i] = y at *
              by_cases hy : y = []
              · rw [qsL_no hy] at hall3
                have hall3' := Lib.hid hall3
                clear hall3
                subst hy
                have ck : wr.cell? ⟨b7, o7 + i, none⟩ = some (.string ⟨#[]⟩) := ck
                go_wp2
                exact ⟨⟨done, i + 1, .slice A8 nd c8, by omega, by go_num, hT'.out, by have := hpo'.out; rwa [hnd'.out] at this, hG'.out, by have := hnd'.out; omega, hall3'.out⟩, by simp [intOf]; omega⟩
              · rw [qsL_yes hy] at hall3
                have hye : y.isEmpty = false := by
                  cases y with
                  | nil => exact absurd rfl hy
                  | cons b r => rfl
                have hpc := Lib.hid (fun W => refPair_any y W (by omega))
                unfold PairR at hpc
                cases hpl : pairL y with
                | none =>
                  rw [hpl] at hpc
                  simp only [pairV] at hpc
                  have hno := Lib.hid (hfin.out.trans (by rw [hall3, allL_stop hpl]))
                  rw [hno.out]
                  unfold ParseR
                  clear hall3 hpl hpo' hst hdl
                  go_upto_region 24 with (go_at_call 61; (with_reducible refine Calls.mono (hpc.out _) ?_); rintro e w8 ⟨rfl, hb8⟩; have hP0 : (w8.alloc (.cells #[.string ⟨#[]⟩, .string ⟨#[]⟩] 88)).cell? ⟨w8.heap.size, 0, none⟩ = some (.string ⟨#[]⟩) := (Has.new w8 88 _).cell 0; have hP1 : (w8.alloc (.cells #[.string ⟨#[]⟩, .string ⟨#[]⟩] 88)).cell? ⟨w8.heap.size, 1, none⟩ = some (.string ⟨#[]⟩) := (Has.new w8 88 _).cell 1; have hF0 := (Has.new w8 88 #[.string ⟨#[]⟩, .string ⟨#[]⟩]).free 0; have hF1 := (Has.new w8 88 #[.string ⟨#[]⟩, .string ⟨#[]⟩]).free 1; have hb8' := Lib.hid hb8; have hz9 := hb8.size; clear hb8)
                  have hB9 := (hB.out.trans (hb8'.out.mono (by omega))).alloc (by omega) (.cells #[.string ⟨#[]⟩, .string ⟨#[]⟩] 88)
                  have hR9 := (hR.out.below hb8'.out hR.out.lt).alloc (.cells #[.string ⟨#[]⟩, .string ⟨#[]⟩] 88)
                  obtain ⟨w9, hw9⟩ : ∃ X, w8.alloc (.cells #[.string ⟨#[]⟩, .string ⟨#[]⟩] 88) = X := ⟨_, rfl⟩
                  rw [hw9] at hB9 hR9 ⊢
                  have c90 : w9.cell? ⟨w.heap.size, 0, none⟩ = some (.slice none 0 0) := hR9.cell 0
                  have c91 : w9.cell? ⟨w.heap.size, 1, none⟩ = some (.slice none 0 0) := hR9.cell 1
                  have f90 := hR9.free 0
                  have f91 := hR9.free 1
                  have hB9' := Lib.hid hB9
                  have hR9' := Lib.hid hR9
                  clear hw9 hB9 hR9 hb8' hP0 hP1 hF0 hF1
                  go_wp2
                  have y0 : ∀ a b, ((w9.setCell ⟨w.heap.size, 0, none⟩ a).setCell ⟨w.heap.size, 1, none⟩ b).cell? ⟨w.heap.size, 0, none⟩ = some a := fun a b => ((hR9'.out.put 0 a).put 1 b).cell 0
                  have y1 : ∀ a b, ((w9.setCell ⟨w.heap.size, 0, none⟩ a).setCell ⟨w.heap.size, 1, none⟩ b).cell? ⟨w.heap.size, 1, none⟩ = some b := fun a b => ((hR9'.out.put 0 a).put 1 b).cell 1
                  refine bodyPost_ret (v := tgV0) (by simp only [results, Tryz.results34]; simp [go_sem, y0, y1]; rfl) rfl ⟨rfl, (hB9'.out.setCell (p := ⟨w.heap.size, 0, none⟩) (Nat.le_refl _) _).setCell (p := ⟨w.heap.size, 1, none⟩) (Nat.le_refl _) _⟩
                | some q =>
                  rw [hpl] at hpc
                  simp only [pairV] at hpc
                  have hall3' := Lib.hid (hall3.trans (allL_step (done := done) (r := qsL (qs.drop (i + 1))) hpl))
                  clear hall3 hpl
                  obtain ⟨q1, q2⟩ := q
                  go_upto_region 24 with (go_at_call 61; (with_reducible refine Calls.mono (hpc.out _) ?_); rintro e w8 ⟨rfl, hb8⟩; have hP0 : (w8.alloc (.cells #[.string ⟨#[]⟩, .string ⟨#[]⟩] 88)).cell? ⟨w8.heap.size, 0, none⟩ = some (.string ⟨#[]⟩) := (Has.new w8 88 _).cell 0; have hP1 : (w8.alloc (.cells #[.string ⟨#[]⟩, .string ⟨#[]⟩] 88)).cell? ⟨w8.heap.size, 1, none⟩ = some (.string ⟨#[]⟩) := (Has.new w8 88 _).cell 1; have hF0 := (Has.new w8 88 #[.string ⟨#[]⟩, .string ⟨#[]⟩]).free 0; have hF1 := (Has.new w8 88 #[.string ⟨#[]⟩, .string ⟨#[]⟩]).free 1; have hb8' := Lib.hid hb8; have hz9 := hb8.size; clear hb8)
                  have hW9 : Below w8.heap.size w8 (w8.alloc (.cells #[.string ⟨q1.toArray⟩, .string ⟨q2.toArray⟩] 88)) := (Below.refl w8.heap.size w8).alloc (Nat.le_refl _) _
                  have hPr9 := Has.new w8 88 #[.string ⟨q1.toArray⟩, .string ⟨q2.toArray⟩]
                  obtain ⟨w9, hw9⟩ : ∃ X, w8.alloc (.cells #[.string ⟨q1.toArray⟩, .string ⟨q2.toArray⟩] 88) = X := ⟨_, rfl⟩
                  rw [hw9] at hW9 hPr9 ⊢
                  have hX9 := below_on hb8'.out (hW9.mono (Nat.le_refl _))
                  have hT9 := hT'.out.below hX9 hT'.out.lt
                  have c90 : w9.cell? ⟨w1.heap.size, 1, none⟩ = some (.slice A8 nd c8) := hT9.cell 1
                  have p90 : w9.cell? ⟨w8.heap.size, 0, none⟩ = some (.string ⟨q1.toArray⟩) := hPr9.cell 0
                  have p91 : w9.cell? ⟨w8.heap.size, 1, none⟩ = some (.string ⟨q2.toArray⟩) := hPr9.cell 1
                  have al9 := (Below.refl w9.heap.size w9).alloc (Nat.le_refl _) (.cells #[.string ⟨q1.toArray⟩, .string ⟨q2.toArray⟩] 88)
                  have hpoA := (hpo'.out.below hX9).below al9
                  rw [hnd'.out] at hpoA
                  have hpoA' := Lib.hid hpoA
                  have hTA := Lib.hid (hT9.below al9 hT9.lt)
                  have hGA := Lib.hid ((hG'.out.trans (Grew.of_below hX9)).trans (Grew.of_below al9))
                  have hnewA := Lib.hid (Has.new w9 88 #[.string ⟨q1.toArray⟩, .string ⟨q2.toArray⟩])
                  have hzA := hGA.out.size
                  clear hw9 hW9 hPr9 hb8' hP0 hP1 hF0 hF1 hX9 hT9 al9 hpoA hst
                  go_wp2_with (at_builtin; refine wpList_append_pair rfl _ _ rfl rfl hpoA'.out _ (q1, q2) rfl hnewA.out (by have := hqmany.out; have := hnd'.out; omega) hzA ?_; intro v10 w10 ho10 hg10; obtain ⟨A10, c10, hv10, _⟩ := ho10.prs; obtain ⟨n10, hn10⟩ : ∃ n10, (done ++ [(q1, q2)]).length = n10 := ⟨_, rfl⟩; rw [hn10] at hv10; subst hv10; have hn10' := Lib.hid hn10; clear hn10; have hT10 := hTA.out.grownP hpoA'.out hg10; have t10 : w10.cell? ⟨w1.heap.size, 1, none⟩ = some (.slice A8 nd c8) := hT10.cell 1; have t11 := hT10.free 1; have hT10' := Lib.hid hT10; have ho10' := Lib.hid ho10; have hg10' := Lib.hid hg10; clear ho10 hg10 hT10)
                  have hG10 := (hGA.out.grown hg10'.out (fun k e => (hpoA'.out.own k e).1)).setT 1 (.slice A10 n10 c10)
                  exact ⟨⟨done ++ [(q1, q2)], i + 1, _, by omega, by go_num, hT10'.out.put 1 (.slice A10 n10 c10), (ho10'.out.grew ((Grew.refl w1.heap.size w10).setT 1 (.slice A10 n10 c10)) (by omega)), hG10, by rw [List.length_append, List.length_singleton]; have := hnd'.out; omega, hall3'.out⟩, by simp [intOf]; omega⟩
            · obtain rfl : i = qs.length := by omega
              rw [List.drop_length] at hall3
              have hdone := Lib.hid (show allL pairL (qsL qs) = some done by rw [hall3]; exact allL_end done)
              have hfin2 := Lib.hid (hfin.out.trans (show _ = some (path, done) by rw [hdone.out]))
              clear hall3 hdone hpo hG hnd hT
              have t0 : wr.cell? ⟨w1.heap.size, 0, none⟩ = some (.slice A2 path.length c2) := hT'.out.cell 0
              have t1 : wr.cell? ⟨w1.heap.size, 1, none⟩ = some (.slice A8 nd c8) := hT'.out.cell 1
              have c90 : wr.cell? ⟨w.heap.size, 0, none⟩ = some (.slice none 0 0) := hR.out.cell 0
              have c91 : wr.cell? ⟨w.heap.size, 1, none⟩ = some (.slice none 0 0) := hR.out.cell 1
              have f90 := hR.out.free 0
              have f91 := hR.out.free 1
              go_wp2
              have y0 : ∀ a b, ((wr.setCell ⟨w.heap.size, 0, none⟩ a).setCell ⟨w.heap.size, 1, none⟩ b).cell? ⟨w.heap.size, 0, none⟩ = some a := fun a b => ((hR.out.put 0 a).put 1 b).cell 0
              have y1 : ∀ a b, ((wr.setCell ⟨w.heap.size, 0, none⟩ a).setCell ⟨w.heap.size, 1, none⟩ b).cell? ⟨w.heap.size, 1, none⟩ = some b := fun a b => ((hR.out.put 0 a).put 1 b).cell 1
              have hGR := ((Grew.refl w.heap.size wr).setT 0 (.slice A2 path.length c2)).setT 1 (.slice A8 nd c8)
              refine bodyPost_ret (v := .tuple #[.agg #[.slice A2 path.length c2, .slice A8 nd c8], .int .i64 0]) (by simp only [results, Tryz.results34]; simp [go_sem, y0, y1]) rfl ?_
              have hs9 := hst.out.grew hGR (by omega)
              have hp9 := hpo'.out.grew hGR (by omega)
              rw [hfin2.out]
              unfold ParseR
              refine ⟨⟨_, rfl, ?_⟩, (hB.out.setCell (p := ⟨w.heap.size, 0, none⟩) (Nat.le_refl _) _).setCell (p := ⟨w.heap.size, 1, none⟩) (Nat.le_refl _) _⟩
              exact ⟨A2, c2, A8, c8, by rw [hnd'.out], hs9.tx.1, hp9.pr⟩
set_option maxRecDepth 100000 in
set_option maxHeartbeats 8000000 in
theorem refParse_p (s : List UInt8) (w : World) (hs : s.length ≤ 50000) (hl0 : 0 < s.length) (h47 : s[0] = 47) (hall : Hid (∀ c ∈ s, okB c = true)) (hnl : Hid (s.length ≤ atL 63 s)) : Calls Tryz.prog 34 #[.string ⟨s.toArray⟩] w (ParseR (parseTg s) w) := by
  have hnew1 := Has.new w 32 #[.slice none 0 0, .slice none 0 0]
  have hal1 := (Below.refl w.heap.size w).alloc (Nat.le_refl _) (.cells #[.slice none 0 0, .slice none 0 0] 32)
  have hz1 : (w.alloc (.cells #[.slice none 0 0, .slice none 0 0] 32)).heap.size = w.heap.size + 1 := by simp
  obtain ⟨w1, hw1⟩ : ∃ X, w.alloc (.cells #[.slice none 0 0, .slice none 0 0] 32) = X := ⟨_, rfl⟩
  rw [hw1] at hnew1 hal1 hz1
  replace hz1 : w.heap.size < w1.heap.size := by omega
  have hw1' := Lib.hid hw1
  have hR1 := Lib.hid hnew1
  have hB1 := Lib.hid hal1
  clear hw1 hnew1 hal1
  have c10 : w1.cell? ⟨w.heap.size, 0, none⟩ = some (.slice none 0 0) := hR1.out.cell 0
  have c11 : w1.cell? ⟨w.heap.size, 1, none⟩ = some (.slice none 0 0) := hR1.out.cell 1
  have f10 := hR1.out.free 0
  have f11 := hR1.out.free 1
  have e00 : ((s.length : Int) == 0) = false := by rw [beq_eq_false_iff_ne]; omega
  have e0 : ((((⟨s.toArray⟩ : ByteArray)[0]'hl0).toNat : Int) == 47) = true := by rw [byte_eq s hl0 47 47 rfl, h47]; rfl
  go_enter Tryz.func34, Tryz.ntmps34
  go_upto_region 1 with (fail)
  rw [hw1'.out]
  go_wp2
  go_loopw [4] (fun x W => ∃ i : Nat, i ≤ s.length ∧ x = .int .i64 (i : Int) ∧ W = w1) (fun x _ => s.length - (intOf x).toNat)
  case atStart => exact ⟨0, Nat.zero_le _, rfl, rfl⟩
  case round =>
    obtain ⟨i, hil, rfl, hW1⟩ := hrel
    obtain rfl := hW1
    by_cases hlt : i < s.length
    · have hltI : (i : Int) < (s.length : Int) := by omega
      obtain ⟨hc1, hc2, hc⟩ := okB_parts (hall.out _ (List.getElem_mem hlt))
      have e35 := byte_eq s hlt 35 35 rfl
      have k1 : ¬ (((⟨s.toArray⟩ : ByteArray)[i]'hlt).toNat : Int) < 33 := by show ¬ ((s[i].toNat : Nat) : Int) < 33; omega
      have k2 : ¬ (126 : Int) < (((⟨s.toArray⟩ : ByteArray)[i]'hlt).toNat : Int) := by show ¬ (126 : Int) < ((s[i].toNat : Nat) : Int); omega
      rw [beq_eq_false_iff_ne.2 hc] at e35
      clear hc hc1 hc2
      go_wp2
      exact ⟨⟨i + 1, by omega, by go_num, trivial⟩, by simp [intOf]; omega⟩
    · obtain rfl : i = s.length := by omega
      have hfin := Lib.hid (parseTg_yes (s := s) ⟨by rw [head_at hl0, h47], List.all_eq_true.2 hall.out⟩)
      have hn1 : 1 ≤ atL 63 s := by
        cases s with
        | nil => simp at hl0
        | cons b r =>
          have hb : b = 47 := h47
          rw [hb, atL, if_neg (by decide)]; omega
      have h0 := Lib.hid (fun W => show Calls Tryz.prog 57 #[.string ⟨s.toArray⟩, .int .u8 63] W fun e w' => e = .returned (.int .i64 (atL 63 s : Int)) ∧ w' = W from refAt_any s 63 W (by omega))
      have hle := atL_le 63 s
      generalize atL 63 s = n at *
      have hnk := hnl.out
      have hlsmany := Lib.hid (show (betw 47 ((s.take n).drop 1)).length ≤ 100000 by rw [betw_parts]; have := partsG_many 47 ((s.take n).drop 1); rw [List.length_drop, List.length_take] at this; omega)
      have hlslen := Lib.hid (show ∀ q ∈ betw 47 ((s.take n).drop 1), q.length ≤ 50000 from fun q hq => by have := betw_all hq; rw [List.length_drop, List.length_take] at this; omega)
      have hlsne := betw_ne 47 ((s.take n).drop 1)
      have hbt1 := Lib.hid (fun W => show Calls Tryz.prog 58 #[.string ((⟨s.toArray⟩ : ByteArray).extract 1 n), .int .u8 47] W (StrsR (betw 47 ((s.take n).drop 1)) W) by rw [cut_str]; exact refBetween_any _ 47 W (by simp; omega))
      unfold StrsR at hbt1
      obtain ⟨ls, hls⟩ : ∃ ls, betw 47 ((s.take n).drop 1) = ls := ⟨_, rfl⟩
      rw [hls] at hfin hlsmany hlslen hlsne hbt1
      have hleI : (n : Int) ≤ (s.length : Int) := by omega
      have hn1I : (1 : Int) ≤ (n : Int) := by omega
      clear hls hlt e0 h47
      have alT := Lib.hid ((Below.refl wr.heap.size wr).alloc (Nat.le_refl _) (.cells #[.slice none 0 0, .slice none 0 0] 32))
      have nwT := Lib.hid (Has.new wr 32 #[.slice none 0 0, .slice none 0 0])
      have zT : (wr.alloc (.cells #[.slice none 0 0, .slice none 0 0] 32)).heap.size = wr.heap.size + 1 := by simp
      have zT' := Lib.hid zT
      clear zT
      go_wp2_with (first
        | (go_at_call 57; (with_reducible refine Calls.mono (h0.out _) ?_); rintro e w9 ⟨rfl, hw9⟩; obtain rfl := hw9.symm)
        | (go_at_call 58; (with_reducible refine Calls.mono (hbt1.out _) ?_); rintro e w3 ⟨v3, rfl, hst3, hb3⟩; obtain ⟨A3, c3, hv3, _⟩ := hst3.txs; subst hv3; have hb3' := Lib.hid hb3; have hst3' := Lib.hid hst3; clear hb3 hst3))
      have hst3 := hst3'.out
      obtain ⟨htx3, hA3⟩ := hst3.tx
      obtain ⟨b3, o3, rfl, hb3l, hcell3⟩ := htx3 (List.length_pos_iff.2 hlsne)
      have hb3n : b3 ≠ wr.heap.size := by have := hA3 b3 o3 rfl; have := zT'.out; omega
      have hcell3' := Lib.hid hcell3
      have hz3 : wr.heap.size < w3.heap.size := by have := hb3'.out.size; have := zT'.out; omega
      have hB3 := Lib.hid (hB1.out.trans ((alT.out.trans (hb3'.out.mono (by have := zT'.out; omega))).mono (by omega)))
      have hR3 := Lib.hid ((hR1.out.below alT.out hR1.out.lt).below hb3'.out (by have := zT'.out; omega))
      have hT3 := Lib.hid (nwT.out.below hb3'.out (by have := zT'.out; omega))
      clear htx3 hA3 hst3 hst3' hcell3 hb3' alT nwT zT' hbt1 h0 hlsne
      obtain ⟨w1, hW1⟩ : ∃ X, X = wr := ⟨_, rfl⟩
      obtain rfl := hW1
      go_loopw [8] (fun x W => ∃ (done : List (List UInt8)) (i : Nat) (v : Value), i ≤ ls.length ∧ x = .int .i64 (i : Int) ∧ Has W w1.heap.size 32 #[v, .slice none 0 0] ∧ Strs W w3.heap.size v done ∧ Grew w1.heap.size w3 W ∧ done.length = i ∧ allL partL ls = (allL partL (ls.drop i)).map (done ++ ·)) (fun x _ => ls.length - (intOf x).toNat)
      case atStart => exact ⟨[], 0, _, Nat.zero_le _, rfl, hT3.out, strs_nil _ _, Grew.refl _ _, rfl, by rw [List.drop_zero]; exact allL_start _ _⟩
      case round =>
        obtain ⟨done, i, v, hil, rfl, hT, hst, hG, hdl, hall2⟩ := hrel
        have hlsb := hlsmany.out
        obtain ⟨A2, c2, hv2, htx2, hA2⟩ := hst.txs
        subst hv2
        have hG' := Lib.hid hG
        have hz2 := hG.size
        have hB := Lib.hid (hB3.out.trans (hG.below (B := w.heap.size) (by omega) (by omega)))
        have hR := Lib.hid (hG.has hR3.out (by omega))
        have hst' := Lib.hid hst
        rw [hdl] at hT
        have hT' := Lib.hid hT
        have hdl' := Lib.hid hdl
        by_cases hlt : i < ls.length
        · have hltI : (i : Int) < (ls.length : Int) := by omega
          have ck : wr.cell? ⟨b3, o3 + i, none⟩ = some (.string ⟨ls[i].toArray⟩) := (World.cell?_of_block (hG.block b3 hb3l hb3n)).trans (hcell3'.out i _ (List.getElem?_eq_getElem hlt))
          have hyl := hlslen.out _ (List.getElem_mem hlt)
          have hdrop : ls.drop i = ls[i] :: ls.drop (i + 1) := List.drop_eq_getElem_cons hlt
          rw [hdrop] at hall2
          clear hT hst hG hdl htx2 hdrop hA2
          generalize ls[i] = y at *
          have hdc := Lib.hid (fun W => refDecode_any false y W (by omega))
          unfold DecR at hdc
          have hfail : ∀ {x : Option (List UInt8)}, partL y = none → parseTg s = none := fun h => hfin.out.trans (by rw [hall2, allL_stop h])
          cases hde : decL false y with
          | none =>
            rw [hde] at hdc
            simp only [decV] at hdc
            have hno := Lib.hid (hfail (x := none) (by unfold partL; rw [hde]))
            rw [hno.out]
            unfold ParseR
            clear hall2 hde hst' hfail
            go_upto_region 15 with (go_at_call 59; (with_reducible refine Calls.mono (hdc.out _) ?_); rintro e w4 ⟨rfl, hb4⟩; have hB4 := Lib.hid (hB.out.trans (hb4.mono (by omega))); have hR4 := (hR.out.below hb4 hR.out.lt); have c40 : w4.cell? ⟨w.heap.size, 0, none⟩ = some (.slice none 0 0) := hR4.cell 0; have c41 : w4.cell? ⟨w.heap.size, 1, none⟩ = some (.slice none 0 0) := hR4.cell 1; have f40 := hR4.free 0; have f41 := hR4.free 1; have hR4' := Lib.hid hR4; clear hR4 hb4)
            go_wp2
            have y0 : ∀ a b, ((w4.setCell ⟨w.heap.size, 0, none⟩ a).setCell ⟨w.heap.size, 1, none⟩ b).cell? ⟨w.heap.size, 0, none⟩ = some a := fun a b => ((hR4'.out.put 0 a).put 1 b).cell 0
            have y1 : ∀ a b, ((w4.setCell ⟨w.heap.size, 0, none⟩ a).setCell ⟨w.heap.size, 1, none⟩ b).cell? ⟨w.heap.size, 1, none⟩ = some b := fun a b => ((hR4'.out.put 0 a).put 1 b).cell 1
            refine bodyPost_ret (v := tgV0) (by simp only [results, Tryz.results34]; simp [go_sem, y0, y1]; rfl) rfl ⟨rfl, (hB4.out.setCell (p := ⟨w.heap.size, 0, none⟩) (Nat.le_refl _) _).setCell (p := ⟨w.heap.size, 1, none⟩) (Nat.le_refl _) _⟩
          | some p =>
            rw [hde] at hdc
            simp only [decV] at hdc
            have hpl := decL_len hde
            have hpt := Lib.hid (fun W => refPart_any p W (by omega))
            cases hpb : partB p with
            | false =>
              rw [hpb] at hpt
              have hno := Lib.hid (hfail (x := none) (by unfold partL; rw [hde]; simp [hpb]))
              rw [hno.out]
              unfold ParseR
              clear hall2 hde hst' hfail
              go_wp2_with (first
                | (go_at_call 59; (with_reducible refine Calls.mono (hdc.out _) ?_); rintro e w4 ⟨rfl, hb4⟩; have hB4 := Lib.hid (hB.out.trans (hb4.mono (by omega))); have hR4 := (hR.out.below hb4 hR.out.lt); have c40 : w4.cell? ⟨w.heap.size, 0, none⟩ = some (.slice none 0 0) := hR4.cell 0; have c41 : w4.cell? ⟨w.heap.size, 1, none⟩ = some (.slice none 0 0) := hR4.cell 1; have f40 := hR4.free 0; have f41 := hR4.free 1; have hR4' := Lib.hid hR4; clear hR4 hb4)
                | (go_at_call 60; (with_reducible refine Calls.mono (hpt.out _) ?_); rintro e w9 ⟨rfl, hw9⟩; obtain rfl := hw9.symm))
              have y0 : ∀ a b, ((w4.setCell ⟨w.heap.size, 0, none⟩ a).setCell ⟨w.heap.size, 1, none⟩ b).cell? ⟨w.heap.size, 0, none⟩ = some a := fun a b => ((hR4'.out.put 0 a).put 1 b).cell 0
              have y1 : ∀ a b, ((w4.setCell ⟨w.heap.size, 0, none⟩ a).setCell ⟨w.heap.size, 1, none⟩ b).cell? ⟨w.heap.size, 1, none⟩ = some b := fun a b => ((hR4'.out.put 0 a).put 1 b).cell 1
              refine bodyPost_ret (v := tgV0) (by simp only [results, Tryz.results34]; simp [go_sem, y0, y1]; rfl) rfl ⟨rfl, (hB4.out.setCell (p := ⟨w.heap.size, 0, none⟩) (Nat.le_refl _) _).setCell (p := ⟨w.heap.size, 1, none⟩) (Nat.le_refl _) _⟩
            | true =>
              rw [hpb] at hpt
              have hall2' := Lib.hid (hall2.trans (allL_step (done := done) (r := ls.drop (i + 1)) (show partL y = some p by unfold partL; rw [hde]; simp [hpb])))
              clear hall2 hde hfail
              go_wp2_with (first
                | (go_at_call 59; (with_reducible refine Calls.mono (hdc.out _) ?_); rintro e w4 ⟨rfl, hb4⟩; have hT4 := hT'.out.below hb4 hT'.out.lt; have t40 : w4.cell? ⟨w1.heap.size, 0, none⟩ = some (.slice A2 i c2) := hT4.cell 0; have al4 := (Below.refl w4.heap.size w4).alloc (Nat.le_refl _) (.cells #[.string ⟨p.toArray⟩] 9); have hstA0 := (hst'.out.below hb4).below al4; rw [hdl'.out] at hstA0; have hstA := Lib.hid hstA0; have hTA := Lib.hid (hT4.below al4 hT4.lt); have hGA := Lib.hid ((hG'.out.trans (Grew.of_below hb4)).trans (Grew.of_below al4)); have hnewA := Lib.hid (Has.new w4 9 #[.string ⟨p.toArray⟩]); have hzA := hGA.out.size; clear hb4 hT4 al4 hstA0)
                | (go_at_call 60; (with_reducible refine Calls.mono (hpt.out _) ?_); rintro e w9 ⟨rfl, hw9⟩; obtain rfl := hw9.symm)
                | (at_builtin; refine wpList_append_str rfl _ _ rfl rfl hstA.out _ p rfl hnewA.out (by have := hlsmany.out; have := hdl'.out; omega) hzA ?_; intro v10 w10 ho10 hg10; obtain ⟨A10, c10, hv10, _⟩ := ho10.txs; obtain ⟨n10, hn10⟩ : ∃ n10, (done ++ [p]).length = n10 := ⟨_, rfl⟩; rw [hn10] at hv10; subst hv10; have hn10' := Lib.hid hn10; clear hn10; have hT10 := hTA.out.grownS hstA.out hg10; have t10 : w10.cell? ⟨w1.heap.size, 0, none⟩ = some (.slice A2 i c2) := hT10.cell 0; have t11 := hT10.free 0; have hT10' := Lib.hid hT10; have ho10' := Lib.hid ho10; have hg10' := Lib.hid hg10; clear ho10 hg10 hT10))
              have hG10 := (hGA.out.grown hg10'.out (fun k e => (hstA.out.own k e).1)).setT 0 (.slice A10 n10 c10)
              exact ⟨⟨done ++ [p], i + 1, _, by omega, by go_num, hT10'.out.put 0 (.slice A10 n10 c10), (ho10'.out.grew ((Grew.refl w1.heap.size w10).setT 0 (.slice A10 n10 c10)) (by omega)), hG10, by rw [List.length_append, List.length_singleton, hdl'.out], hall2'.out⟩, by simp [intOf]; omega⟩
        · obtain rfl : i = ls.length := by omega
          rw [List.drop_length] at hall2
          have hpath := Lib.hid (show allL partL ls = some done by rw [hall2]; exact allL_end done)
          rw [hpath.out] at hfin
          have hT2 := Lib.hid (show Has wr w1.heap.size 32 #[.slice A2 done.length c2, .slice none 0 0] by rw [hdl]; exact hT)
          have hB2 := hB
          have hR2 := hR
          have hst2 := hst'
          clear hall2 hpath hT hst hG hT' htx2 hA2 hB hR hst' hdl hdl' hG' hcell3' hb3n
          obtain ⟨W2, hW2⟩ : ∃ X, X = wr := ⟨_, rfl⟩
          obtain rfl := hW2
          generalize done = path at *
          have hqmany := Lib.hid (show (betw 38 (s.drop (n + 1))).length ≤ 100000 by rw [betw_parts]; have := partsG_many 38 (s.drop (n + 1)); rw [List.length_drop] at this; omega)
          have hqlen := Lib.hid (show ∀ q ∈ betw 38 (s.drop (n + 1)), q.length ≤ 50000 from fun q hq => by have := betw_all hq; rw [List.length_drop] at this; omega)
          have hqne := Lib.hid (betw_ne 38 (s.drop (n + 1)))
          obtain ⟨qs, hqs⟩ : ∃ qs, betw 38 (s.drop (n + 1)) = qs := ⟨_, rfl⟩
          rw [hqs] at hfin hqmany hqlen hqne
          have hnI : ¬ (n : Int) + 1 ≤ (s.length : Int) := by omega

          have hbt2 := Lib.hid (fun W => show Calls Tryz.prog 58 #[.string ByteArray.empty, .int .u8 38] W (StrsR qs W) by rw [← hqs, List.drop_of_length_le (by omega)]; exact refBetween_any [] 38 W (by simp))
          unfold StrsR at hbt2
          go_wp2_with (go_at_call 58; (with_reducible refine Calls.mono (hbt2.out _) ?_); rintro e w7 ⟨v7, rfl, hst7, hb7⟩; obtain ⟨A7, c7, hv7, _⟩ := hst7.txs; subst hv7; have hb7' := Lib.hid hb7; have hst7' := Lib.hid hst7; clear hb7 hst7)
          have hst7 := hst7'.out
          clear hst7'
          have hz7 := hb7'.out.size
          have hB7 := Lib.hid (hB2.out.trans (hb7'.out.mono (by omega)))
          have hR7 := Lib.hid (hR2.out.below hb7'.out hR2.out.lt)
          have hT7' := Lib.hid (hT2.out.below hb7'.out hT2.out.lt)
          have hst7' := Lib.hid (hst2.out.below hb7'.out)
          clear hT2 hR2 hB2 hst2 hbt2 hb7'

          obtain ⟨htx7, hA7⟩ := hst7.tx
          have hq0 : 0 < qs.length := List.length_pos_iff.2 hqne.out
          obtain ⟨b7, o7, rfl, hb7l, hcell7⟩ := htx7 hq0
          have hb7n : b7 ≠ w1.heap.size := by have := hA7 b7 o7 rfl; omega
          have hcell7' := Lib.hid hcell7
          have hq0' := Lib.hid hq0
          clear htx7 hA7 hst7 hq0 hcell7
          go_loopw [12] (fun x W => ∃ (done : List PairL) (i : Nat) (v : Value), i ≤ qs.length ∧ x = .int .i64 (i : Int) ∧ Has W w1.heap.size 32 #[.slice A2 path.length c2, v] ∧ PrsO W w7.heap.size v done ∧ Grew w1.heap.size w7 W ∧ done.length ≤ i ∧ allL pairL (qsL qs) = (allL pairL (qsL (qs.drop i))).map (done ++ ·)) (fun x _ => qs.length - (intOf x).toNat)
          case atStart => exact ⟨[], 0, _, Nat.zero_le _, rfl, hT7'.out, prsO_nil _ _, Grew.refl _ _, Nat.le_refl _, by rw [List.drop_zero]; exact allL_start _ _⟩
          case round =>
            obtain ⟨done, i, v, hil, rfl, hT, hpo, hG, hdl, hall3⟩ := hrel
            have hqsb := hqmany.out
            obtain ⟨A8, c8, hv8, hpr8⟩ := hpo.prs
            subst hv8
            have hG' := Lib.hid hG
            have hz8 := hG.size
            have hB := Lib.hid (hB7.out.trans (hG.below (B := w.heap.size) (by omega) (by omega)))
            have hR := Lib.hid (hG.has hR7.out (by omega))
            have hst := Lib.hid (hst7'.out.grew hG (by omega))
            have hpo' := Lib.hid hpo
            have hT' := Lib.hid hT
            obtain ⟨nd, hnd⟩ : ∃ nd, done.length = nd := ⟨_, rfl⟩
            have hnd' := Lib.hid hnd
            rw [hnd] at hdl hT'
            by_cases hlt : i < qs.length
            · have hltI : (i : Int) < (qs.length : Int) := by omega
              have ck : wr.cell? ⟨b7, o7 + i, none⟩ = some (.string ⟨qs[i].toArray⟩) := (World.cell?_of_block (hG.block b7 hb7l hb7n)).trans (hcell7'.out i _ (List.getElem?_eq_getElem hlt))
              have hyl := hqlen.out _ (List.getElem_mem hlt)
              have hdrop : qs.drop i = qs[i] :: qs.drop (i + 1) := List.drop_eq_getElem_cons hlt
              rw [hdrop] at hall3
              clear hT hpo hG hnd hpr8 hdrop
              generalize qs[i] = y at *
              by_cases hy : y = []
              · rw [qsL_no hy] at hall3
                have hall3' := Lib.hid hall3
                clear hall3
                subst hy
                have ck : wr.cell? ⟨b7, o7 + i, none⟩ = some (.string ⟨#[]⟩) := ck
                go_wp2
                exact ⟨⟨done, i + 1, .slice A8 nd c8, by omega, by go_num, hT'.out, by have := hpo'.out; rwa [hnd'.out] at this, hG'.out, by have := hnd'.out; omega, hall3'.out⟩, by simp [intOf]; omega⟩
              · rw [qsL_yes hy] at hall3
                have hye : y.isEmpty = false := by
                  cases y with
                  | nil => exact absurd rfl hy
                  | cons b r => rfl
                have hpc := Lib.hid (fun W => refPair_any y W (by omega))
                unfold PairR at hpc
                cases hpl : pairL y with
                | none =>
                  rw [hpl] at hpc
                  simp only [pairV] at hpc
                  have hno := Lib.hid (hfin.out.trans (by rw [hall3, allL_stop hpl]))
                  rw [hno.out]
                  unfold ParseR
                  clear hall3 hpl hpo' hst hdl
                  go_upto_region 24 with (go_at_call 61; (with_reducible refine Calls.mono (hpc.out _) ?_); rintro e w8 ⟨rfl, hb8⟩; have hP0 : (w8.alloc (.cells #[.string ⟨#[]⟩, .string ⟨#[]⟩] 88)).cell? ⟨w8.heap.size, 0, none⟩ = some (.string ⟨#[]⟩) := (Has.new w8 88 _).cell 0; have hP1 : (w8.alloc (.cells #[.string ⟨#[]⟩, .string ⟨#[]⟩] 88)).cell? ⟨w8.heap.size, 1, none⟩ = some (.string ⟨#[]⟩) := (Has.new w8 88 _).cell 1; have hF0 := (Has.new w8 88 #[.string ⟨#[]⟩, .string ⟨#[]⟩]).free 0; have hF1 := (Has.new w8 88 #[.string ⟨#[]⟩, .string ⟨#[]⟩]).free 1; have hb8' := Lib.hid hb8; have hz9 := hb8.size; clear hb8)
                  have hB9 := (hB.out.trans (hb8'.out.mono (by omega))).alloc (by omega) (.cells #[.string ⟨#[]⟩, .string ⟨#[]⟩] 88)
                  have hR9 := (hR.out.below hb8'.out hR.out.lt).alloc (.cells #[.string ⟨#[]⟩, .string ⟨#[]⟩] 88)
                  obtain ⟨w9, hw9⟩ : ∃ X, w8.alloc (.cells #[.string ⟨#[]⟩, .string ⟨#[]⟩] 88) = X := ⟨_, rfl⟩
                  rw [hw9] at hB9 hR9 ⊢
                  have c90 : w9.cell? ⟨w.heap.size, 0, none⟩ = some (.slice none 0 0) := hR9.cell 0
                  have c91 : w9.cell? ⟨w.heap.size, 1, none⟩ = some (.slice none 0 0) := hR9.cell 1
                  have f90 := hR9.free 0
                  have f91 := hR9.free 1
                  have hB9' := Lib.hid hB9
                  have hR9' := Lib.hid hR9
                  clear hw9 hB9 hR9 hb8' hP0 hP1 hF0 hF1
                  go_wp2
                  have y0 : ∀ a b, ((w9.setCell ⟨w.heap.size, 0, none⟩ a).setCell ⟨w.heap.size, 1, none⟩ b).cell? ⟨w.heap.size, 0, none⟩ = some a := fun a b => ((hR9'.out.put 0 a).put 1 b).cell 0
                  have y1 : ∀ a b, ((w9.setCell ⟨w.heap.size, 0, none⟩ a).setCell ⟨w.heap.size, 1, none⟩ b).cell? ⟨w.heap.size, 1, none⟩ = some b := fun a b => ((hR9'.out.put 0 a).put 1 b).cell 1
                  refine bodyPost_ret (v := tgV0) (by simp only [results, Tryz.results34]; simp [go_sem, y0, y1]; rfl) rfl ⟨rfl, (hB9'.out.setCell (p := ⟨w.heap.size, 0, none⟩) (Nat.le_refl _) _).setCell (p := ⟨w.heap.size, 1, none⟩) (Nat.le_refl _) _⟩
                | some q =>
                  rw [hpl] at hpc
                  simp only [pairV] at hpc
                  have hall3' := Lib.hid (hall3.trans (allL_step (done := done) (r := qsL (qs.drop (i + 1))) hpl))
                  clear hall3 hpl
                  obtain ⟨q1, q2⟩ := q
                  go_upto_region 24 with (go_at_call 61; (with_reducible refine Calls.mono (hpc.out _) ?_); rintro e w8 ⟨rfl, hb8⟩; have hP0 : (w8.alloc (.cells #[.string ⟨#[]⟩, .string ⟨#[]⟩] 88)).cell? ⟨w8.heap.size, 0, none⟩ = some (.string ⟨#[]⟩) := (Has.new w8 88 _).cell 0; have hP1 : (w8.alloc (.cells #[.string ⟨#[]⟩, .string ⟨#[]⟩] 88)).cell? ⟨w8.heap.size, 1, none⟩ = some (.string ⟨#[]⟩) := (Has.new w8 88 _).cell 1; have hF0 := (Has.new w8 88 #[.string ⟨#[]⟩, .string ⟨#[]⟩]).free 0; have hF1 := (Has.new w8 88 #[.string ⟨#[]⟩, .string ⟨#[]⟩]).free 1; have hb8' := Lib.hid hb8; have hz9 := hb8.size; clear hb8)
                  have hW9 : Below w8.heap.size w8 (w8.alloc (.cells #[.string ⟨q1.toArray⟩, .string ⟨q2.toArray⟩] 88)) := (Below.refl w8.heap.size w8).alloc (Nat.le_refl _) _
                  have hPr9 := Has.new w8 88 #[.string ⟨q1.toArray⟩, .string ⟨q2.toArray⟩]
                  obtain ⟨w9, hw9⟩ : ∃ X, w8.alloc (.cells #[.string ⟨q1.toArray⟩, .string ⟨q2.toArray⟩] 88) = X := ⟨_, rfl⟩
                  rw [hw9] at hW9 hPr9 ⊢
                  have hX9 := below_on hb8'.out (hW9.mono (Nat.le_refl _))
                  have hT9 := hT'.out.below hX9 hT'.out.lt
                  have c90 : w9.cell? ⟨w1.heap.size, 1, none⟩ = some (.slice A8 nd c8) := hT9.cell 1
                  have p90 : w9.cell? ⟨w8.heap.size, 0, none⟩ = some (.string ⟨q1.toArray⟩) := hPr9.cell 0
                  have p91 : w9.cell? ⟨w8.heap.size, 1, none⟩ = some (.string ⟨q2.toArray⟩) := hPr9.cell 1
                  have al9 := (Below.refl w9.heap.size w9).alloc (Nat.le_refl _) (.cells #[.string ⟨q1.toArray⟩, .string ⟨q2.toArray⟩] 88)
                  have hpoA := (hpo'.out.below hX9).below al9
                  rw [hnd'.out] at hpoA
                  have hpoA' := Lib.hid hpoA
                  have hTA := Lib.hid (hT9.below al9 hT9.lt)
                  have hGA := Lib.hid ((hG'.out.trans (Grew.of_below hX9)).trans (Grew.of_below al9))
                  have hnewA := Lib.hid (Has.new w9 88 #[.string ⟨q1.toArray⟩, .string ⟨q2.toArray⟩])
                  have hzA := hGA.out.size
                  clear hw9 hW9 hPr9 hb8' hP0 hP1 hF0 hF1 hX9 hT9 al9 hpoA hst
                  go_wp2_with (at_builtin; refine wpList_append_pair rfl _ _ rfl rfl hpoA'.out _ (q1, q2) rfl hnewA.out (by have := hqmany.out; have := hnd'.out; omega) hzA ?_; intro v10 w10 ho10 hg10; obtain ⟨A10, c10, hv10, _⟩ := ho10.prs; obtain ⟨n10, hn10⟩ : ∃ n10, (done ++ [(q1, q2)]).length = n10 := ⟨_, rfl⟩; rw [hn10] at hv10; subst hv10; have hn10' := Lib.hid hn10; clear hn10; have hT10 := hTA.out.grownP hpoA'.out hg10; have t10 : w10.cell? ⟨w1.heap.size, 1, none⟩ = some (.slice A8 nd c8) := hT10.cell 1; have t11 := hT10.free 1; have hT10' := Lib.hid hT10; have ho10' := Lib.hid ho10; have hg10' := Lib.hid hg10; clear ho10 hg10 hT10)
                  have hG10 := (hGA.out.grown hg10'.out (fun k e => (hpoA'.out.own k e).1)).setT 1 (.slice A10 n10 c10)
                  exact ⟨⟨done ++ [(q1, q2)], i + 1, _, by omega, by go_num, hT10'.out.put 1 (.slice A10 n10 c10), (ho10'.out.grew ((Grew.refl w1.heap.size w10).setT 1 (.slice A10 n10 c10)) (by omega)), hG10, by rw [List.length_append, List.length_singleton]; have := hnd'.out; omega, hall3'.out⟩, by simp [intOf]; omega⟩
            · obtain rfl : i = qs.length := by omega
              rw [List.drop_length] at hall3
              have hdone := Lib.hid (show allL pairL (qsL qs) = some done by rw [hall3]; exact allL_end done)
              have hfin2 := Lib.hid (hfin.out.trans (show _ = some (path, done) by rw [hdone.out]))
              clear hall3 hdone hpo hG hnd hT
              have t0 : wr.cell? ⟨w1.heap.size, 0, none⟩ = some (.slice A2 path.length c2) := hT'.out.cell 0
              have t1 : wr.cell? ⟨w1.heap.size, 1, none⟩ = some (.slice A8 nd c8) := hT'.out.cell 1
              have c90 : wr.cell? ⟨w.heap.size, 0, none⟩ = some (.slice none 0 0) := hR.out.cell 0
              have c91 : wr.cell? ⟨w.heap.size, 1, none⟩ = some (.slice none 0 0) := hR.out.cell 1
              have f90 := hR.out.free 0
              have f91 := hR.out.free 1
              go_wp2
              have y0 : ∀ a b, ((wr.setCell ⟨w.heap.size, 0, none⟩ a).setCell ⟨w.heap.size, 1, none⟩ b).cell? ⟨w.heap.size, 0, none⟩ = some a := fun a b => ((hR.out.put 0 a).put 1 b).cell 0
              have y1 : ∀ a b, ((wr.setCell ⟨w.heap.size, 0, none⟩ a).setCell ⟨w.heap.size, 1, none⟩ b).cell? ⟨w.heap.size, 1, none⟩ = some b := fun a b => ((hR.out.put 0 a).put 1 b).cell 1
              have hGR := ((Grew.refl w.heap.size wr).setT 0 (.slice A2 path.length c2)).setT 1 (.slice A8 nd c8)
              refine bodyPost_ret (v := .tuple #[.agg #[.slice A2 path.length c2, .slice A8 nd c8], .int .i64 0]) (by simp only [results, Tryz.results34]; simp [go_sem, y0, y1]) rfl ?_
              have hs9 := hst.out.grew hGR (by omega)
              have hp9 := hpo'.out.grew hGR (by omega)
              rw [hfin2.out]
              unfold ParseR
              refine ⟨⟨_, rfl, ?_⟩, (hB.out.setCell (p := ⟨w.heap.size, 0, none⟩) (Nat.le_refl _) _).setCell (p := ⟨w.heap.size, 1, none⟩) (Nat.le_refl _) _⟩
              exact ⟨A2, c2, A8, c8, by rw [hnd'.out], hs9.tx.1, hp9.pr⟩
theorem refParse_any (s : List UInt8) (w : World) (hs : s.length ≤ 50000) : Calls Tryz.prog 34 #[.string ⟨s.toArray⟩] w (ParseR (parseTg s) w) := by
  by_cases h : s.head? = some 47 ∧ s.all okB = true
  · obtain ⟨h1, h2⟩ := h
    have h0 : 0 < s.length := by
      cases s with
      | nil => simp at h1
      | cons b r => simp
    have h47 : s[0] = 47 := by rw [head_at h0] at h1; exact Option.some.inj h1
    rcases Nat.lt_or_ge (atL 63 s) s.length with hn | hn
    · exact refParse_q s w hs h0 h47 (Lib.hid (List.all_eq_true.1 h2)) (Lib.hid hn)
    · exact refParse_p s w hs h0 h47 (Lib.hid (List.all_eq_true.1 h2)) (Lib.hid hn)
  · exact refParse_no s w hs h
end Go.Proofs.YtbmemkbfignlaaaGreatDoor
