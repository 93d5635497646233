import Derived.Test.YtcogdfgmmpfkkaaGreatDoorPk44
namespace Go.Proofs.YtcogdfgmmpfkkaaGreatDoor
open Go.RowKit
attribute [local go_sem] Oper.semAt_some

/-! ## The law of TargetHolds (written by gen11o.py) -/
theorem text_len (t : TgL) (m : Nat) (h1 : ∀ x ∈ t.1, x.length ≤ m) (h2 : ∀ q ∈ t.2, q.1.length ≤ m ∧ q.2.length ≤ m) : (textTg t).length ≤ (3 * m + 1) * t.1.length + (6 * m + 2) * t.2.length := by
  have hp : ∀ q ∈ t.2, (pairTx q).length ≤ 6 * m + 1 := fun q hq => by
    obtain ⟨h1, h2⟩ := h2 q hq
    have e1 := encL_len q.1
    have e2 := encL_len q.2
    unfold pairTx
    rw [List.length_append, List.length_cons]
    omega
  have a := flat_len (fun x => 47 :: encL x) (3 * m + 1) t.1 (fun x hx => by have := h1 x hx; have := encL_len x; simp; omega)
  have b : (queryTx t.2).length ≤ (6 * m + 2) * t.2.length := by
    cases hq : t.2 with
    | nil => simp [queryTx]
    | cons q r =>
      have x1 := hp q (by rw [hq]; exact List.mem_cons_self)
      have x2 := flat_len (fun x => 38 :: pairTx x) (6 * m + 2) r (fun x hx => by have := hp x (by rw [hq]; exact List.mem_cons_of_mem _ hx); simp; omega)
      unfold queryTx
      rw [List.length_cons, List.length_append, List.length_cons, Nat.mul_succ]
      omega
  unfold textTg pathTx
  rw [List.length_append]
  omega
theorem textV_yes {t : TgL} (h : rightTg t = true) : textV t = .tuple #[.string ⟨(textTg t).toArray⟩, .int .i64 0] := by unfold textV; rw [if_pos h]
theorem orT_some (t : TgL) : orT (some t) = t := rfl
set_option maxRecDepth 100000 in
set_option maxHeartbeats 8000000 in
theorem holds_near (hP : TgProg) (A1 A2 : Option Addr) (c1 c2 : Nat) (t : TgL) (s : List UInt8) (w : World) (ht : fewB t = true) (ha : ArgT t) (hs : s.length ≤ 200) (hT : TabT w) (hx : Txs w A1 t.1) (hq : Prs w A2 t.2) :
    Calls Tryz.prog 5 #[.agg #[.slice A1 t.1.length c1, .slice A2 t.2.length c2], .string ⟨s.toArray⟩] w (BoolR true w) := by
  unfold BoolR
  have hT' := Lib.hid hT
  have hsI : ¬ (200 : Int) < (s.length : Int) := by omega
  have hfw := fewB_fewT ht
  obtain ⟨l1, l2, l3, l4⟩ := fewB_few ht
  have hlen : (textTg t).length ≤ 500000 := by
    have := text_len t 120 (fun x hx => by have := l3 x hx; omega) (fun q hq => by have := l4 q hq; omega)
    omega
  have hfew := Lib.hid (fun W (k1 : Txs W A1 t.1) (k2 : Prs W A2 t.2) => few_any A1 A2 c1 c2 t W ha k1 k2)
  rw [ht] at hfew
  unfold BoolR at hfew
  have hright := Lib.hid (fun W (k1 : Txs W A1 t.1) => refRight_any A1 A2 c1 c2 t W hfw k1)
  have htext := Lib.hid (fun (hr : rightTg t = true) W hW (k1 : Txs W A1 t.1) (k2 : Prs W A2 t.2) => (show Calls Tryz.prog 16 #[.agg #[.slice A1 t.1.length c1, .slice A2 t.2.length c2]] W fun e w' => e = .returned (.tuple #[.string ⟨(textTg t).toArray⟩, .int .i64 0]) ∧ Below W.heap.size W w' from by rw [← textV_yes hr]; exact hP.text A1 A2 c1 c2 t W hW hfw k1 k2))
  have hparse := Lib.hid (fun (hr : rightTg t = true) W hW => (show Calls Tryz.prog 7 #[.string ⟨(textTg t).toArray⟩] W fun e w' => (∃ A1 c1 A2 c2, e = .returned (.tuple #[.agg #[.slice A1 t.1.length c1, .slice A2 t.2.length c2], .int .i64 0]) ∧ Txs w' A1 t.1 ∧ Prs w' A2 t.2) ∧ Below W.heap.size W w' from (hP.parse (textTg t) W hW hlen).mono (fun _ _ h => by rw [parse_text hr] at h; exact h.any)))
  have hsame := Lib.hid (fun B1 B2 d1 d2 W hW (k1 : Txs W B1 t.1) (k2 : Prs W B2 t.2) (k3 : Txs W A1 t.1) (k4 : Prs W A2 t.2) => (show Calls Tryz.prog 21 #[.agg #[.slice B1 t.1.length d1, .slice B2 t.2.length d2], .agg #[.slice A1 t.1.length c1, .slice A2 t.2.length c2]] W fun e w' => e = .returned (.bool true) ∧ Below W.heap.size W w' from by have := hP.same B1 B2 A1 A2 d1 d2 c1 c2 t t W hW hfw hfw k1 k2 k3 k4; unfold BoolR at this; rwa [decide_eq_true rfl] at this))
  have hpu := Lib.hid (fun W hW => (hP.parse s W hW (by omega)).mono (fun _ _ h => h.any))
  have hk := box_tg w A1 A2 t.1.length c1 t.2.length c2
  have hal := (Below.refl w.heap.size w).alloc (Nat.le_refl _) (.cells #[.slice A1 t.1.length c1, .slice A2 t.2.length c2] 26)
  generalize t.1.length = n1 at *
  generalize t.2.length = n2 at *
  obtain ⟨w1, hw1⟩ : ∃ X, w.alloc (.cells #[.slice A1 n1 c1, .slice A2 n2 c2] 26) = X := ⟨_, rfl⟩
  rw [hw1] at hk hal
  have hw1' := Lib.hid hw1
  have hB1 := Lib.hid hal
  have hx11 := Lib.hid (hx.below hal)
  have hx12 := Lib.hid (hq.below hal)
  have k10 : w1.cell? ⟨w.heap.size, 0, none⟩ = some (.slice A1 n1 c1) := hk.cell 0
  have k11 : w1.cell? ⟨w.heap.size, 1, none⟩ = some (.slice A2 n2 c2) := hk.cell 1
  have hk1 := Lib.hid hk
  clear hw1 hal hx hq hk hlen hT ht ha l1 l2 l3 l4 hfw
  cases hpo : parseTg s with
  | none =>
    rw [hpo] at hpu
    simp only [show orT none = ([], []) from rfl, errT, List.length_nil] at hpu
    clear hpo
    go_enter Tryz.func5, Tryz.ntmps5
    go_upto_region 1 with (fail)
    rw [hw1'.out]
    go_upto_region 3 with (go_at_call 15; (with_reducible refine Calls.mono (hfew.out _ hx11.out hx12.out) ?_); rintro e w2 ⟨rfl, hb2⟩; have hB2 := Lib.hid (below_on hB1.out hb2); have hx21 := Lib.hid (hx11.out.below hb2); have hx22 := Lib.hid (hx12.out.below hb2); have hk2 := Lib.hid (hk1.out.below hb2 hk1.out.lt); clear hb2)
    go_upto_region 4 with (go_at_call 7; (with_reducible refine Calls.mono (hpu.out _ (hT'.out.below hB2.out)) ?_); rintro e w3 ⟨⟨F1, g1, F2, g2, rfl, _, _⟩, hb3⟩; have hb3' := Lib.hid hb3; clear hb3)
    have alF := (Below.refl w3.heap.size w3).alloc (Nat.le_refl _) (.cells #[.slice F1 0 g1, .slice F2 0 g2] 26)
    obtain ⟨wF, hwF⟩ : ∃ X, w3.alloc (.cells #[.slice F1 0 g1, .slice F2 0 g2] 26) = X := ⟨_, rfl⟩
    rw [hwF] at alF ⊢
    have alF2 := below_on hb3'.out alF
    have hB := Lib.hid (below_on hB2.out alF2)
    have hx1 := Lib.hid (hx21.out.below alF2)
    have hx2 := Lib.hid (hx22.out.below alF2)
    have hk := Lib.hid (hk2.out.below alF2 hk2.out.lt)
    clear hwF alF alF2 hb3' hx21 hx22 hk2 hB2 hx11 hx12 k10 k11 hk1
    go_upto_region 11 with (go_at_call 10; (with_reducible refine Calls.mono (num_any _ _) ?_); rintro e w99 ⟨rfl, hw99⟩; obtain rfl := hw99.symm)
    have k0 : wF.cell? ⟨w.heap.size, 0, none⟩ = some (.slice A1 n1 c1) := hk.out.cell 0
    have k1 : wF.cell? ⟨w.heap.size, 1, none⟩ = some (.slice A2 n2 c2) := hk.out.cell 1
    cases hr : rightTg t with
    | false =>
      rw [hr] at hright
      go_wp2_with (first
        | (go_at_call 17; (with_reducible refine Calls.mono (hright.out _ hx1.out) ?_); rintro e w21 ⟨rfl, hb21⟩; have hB21 := Lib.hid (below_on hB.out hb21); clear hb21)
        | (go_at_call 6; (with_reducible refine Calls.mono (works_any hP _ (hT'.out.below hB21.out)) ?_); rintro e w22 ⟨rfl, hb22⟩; have hB22 := Lib.hid (below_on hB21.out hb22); clear hb22))
      go_ret
      exact ⟨rfl, hB22.out⟩
    | true =>
      rw [hr] at hright
      have htx := Lib.hid (htext.out hr)
      have hpr := Lib.hid (hparse.out hr)
      clear hr
      go_upto_region 14 with (first
        | (go_at_call 17; (with_reducible refine Calls.mono (hright.out _ hx1.out) ?_); rintro e w21 ⟨rfl, hb21⟩; have hB21 := Lib.hid (below_on hB.out hb21); have hx211 := Lib.hid (hx1.out.below hb21); have hx212 := Lib.hid (hx2.out.below hb21); have hk21 := hk.out.below hb21 hk.out.lt; have k210 : w21.cell? ⟨w.heap.size, 0, none⟩ = some (.slice A1 n1 c1) := hk21.cell 0; have k211 : w21.cell? ⟨w.heap.size, 1, none⟩ = some (.slice A2 n2 c2) := hk21.cell 1; have hk21' := Lib.hid hk21; clear hb21 hk21)
        | (go_at_call 16; (with_reducible refine Calls.mono (htx.out _ (hT'.out.below hB21.out) hx211.out hx212.out) ?_); rintro e w23 ⟨rfl, hb23⟩; have hB23 := Lib.hid (below_on hB21.out hb23); have hx231 := Lib.hid (hx211.out.below hb23); have hx232 := Lib.hid (hx212.out.below hb23); have hk23 := Lib.hid (hk21'.out.below hb23 hk21'.out.lt); clear hb23))
      go_upto_region 15 with (go_at_call 7; (with_reducible refine Calls.mono (hpr.out _ (hT'.out.below hB23.out)) ?_); rintro e w24 ⟨⟨E1, f1, E2, f2, rfl, hy1, hy2⟩, hb24⟩; have hb24' := Lib.hid hb24; have hy1' := Lib.hid hy1; have hy2' := Lib.hid hy2; clear hb24 hy1 hy2)
      have hkE := Has.new w24 26 #[.slice E1 n1 f1, .slice E2 n2 f2]
      have alE := (Below.refl w24.heap.size w24).alloc (Nat.le_refl _) (.cells #[.slice E1 n1 f1, .slice E2 n2 f2] 26)
      obtain ⟨wE, hwE⟩ : ∃ X, w24.alloc (.cells #[.slice E1 n1 f1, .slice E2 n2 f2] 26) = X := ⟨_, rfl⟩
      rw [hwE] at hkE alE ⊢
      have alE2 := below_on hb24'.out alE
      have hBE := Lib.hid (below_on hB23.out alE2)
      have hxE1 := Lib.hid (hx231.out.below alE2)
      have hxE2 := Lib.hid (hx232.out.below alE2)
      have hyE1 := Lib.hid (hy1'.out.below alE)
      have hyE2 := Lib.hid (hy2'.out.below alE)
      have hkE2 := hk23.out.below alE2 hk23.out.lt
      have a0 : wE.cell? ⟨w.heap.size, 0, none⟩ = some (.slice A1 n1 c1) := hkE2.cell 0
      have a1 : wE.cell? ⟨w.heap.size, 1, none⟩ = some (.slice A2 n2 c2) := hkE2.cell 1
      have b0 : wE.cell? ⟨w24.heap.size, 0, none⟩ = some (.slice E1 n1 f1) := hkE.cell 0
      have b1 : wE.cell? ⟨w24.heap.size, 1, none⟩ = some (.slice E2 n2 f2) := hkE.cell 1
      clear hwE hkE alE alE2 hkE2 hy1' hy2' hb24' hx231 hx232 hk23
      go_wp2_with (first
        | (go_at_call 10; (with_reducible refine Calls.mono (num_any _ _) ?_); rintro e w99 ⟨rfl, hw99⟩; obtain rfl := hw99.symm)
        | (go_at_call 21; (with_reducible refine Calls.mono (hsame.out _ _ _ _ _ (hT'.out.below hBE.out) hyE1.out hyE2.out hxE1.out hxE2.out) ?_); rintro e w25 ⟨rfl, hb25⟩; have hB25 := Lib.hid (below_on hBE.out hb25); clear hb25)
        | (go_at_call 6; (with_reducible refine Calls.mono (works_any hP _ (hT'.out.below hB25.out)) ?_); rintro e w26 ⟨rfl, hb26⟩; have hB26 := Lib.hid (below_on hB25.out hb26); clear hb26))
      go_ret
      exact ⟨rfl, hB26.out⟩
  | some u =>
    have hru := parse_right hpo
    have hfu := parse_fewT hpo (by omega)
    have hfu2 := parse_few hpo (by omega)
    have hulen : (textTg u).length ≤ 500000 := by
      have := text_len u 200 (fun x hx => by have := hfu2.2.2.1 x hx; omega) (fun q hq => by have := hfu2.2.2.2 q hq; omega)
      have h1 := hfu2.1
      have h2 := hfu2.2.1
      have h3 : (3 * 200 + 1) * u.1.length ≤ 601 * 201 := Nat.mul_le_mul_left 601 (by omega)
      have h4 : (6 * 200 + 2) * u.2.length ≤ 1202 * 201 := Nat.mul_le_mul_left 1202 (by omega)
      omega
    rw [hpo] at hpu
    simp only [orT_some, errT] at hpu
    have uright := Lib.hid (fun U1 U2 d1 d2 W (k1 : Txs W U1 u.1) => refRight_any U1 U2 d1 d2 u W hfu k1)
    rw [hru] at uright
    have utext := Lib.hid (fun U1 U2 d1 d2 W hW (k1 : Txs W U1 u.1) (k2 : Prs W U2 u.2) => (show Calls Tryz.prog 16 #[.agg #[.slice U1 u.1.length d1, .slice U2 u.2.length d2]] W fun e w' => e = .returned (.tuple #[.string ⟨(textTg u).toArray⟩, .int .i64 0]) ∧ Below W.heap.size W w' from by rw [← textV_yes hru]; exact hP.text U1 U2 d1 d2 u W hW hfu k1 k2))
    have uparse := Lib.hid (fun W hW => (show Calls Tryz.prog 7 #[.string ⟨(textTg u).toArray⟩] W fun e w' => (∃ A1 c1 A2 c2, e = .returned (.tuple #[.agg #[.slice A1 u.1.length c1, .slice A2 u.2.length c2], .int .i64 0]) ∧ Txs w' A1 u.1 ∧ Prs w' A2 u.2) ∧ Below W.heap.size W w' from (hP.parse (textTg u) W hW hulen).mono (fun _ _ h => by rw [parse_text hru] at h; exact h.any)))
    have usame := Lib.hid (fun B1 B2 C1 C2 d1 d2 e1 e2 W hW (k1 : Txs W B1 u.1) (k2 : Prs W B2 u.2) (k3 : Txs W C1 u.1) (k4 : Prs W C2 u.2) => (show Calls Tryz.prog 21 #[.agg #[.slice B1 u.1.length d1, .slice B2 u.2.length d2], .agg #[.slice C1 u.1.length e1, .slice C2 u.2.length e2]] W fun e w' => e = .returned (.bool true) ∧ Below W.heap.size W w' from by have := hP.same B1 B2 C1 C2 d1 d2 e1 e2 u u W hW hfu hfu k1 k2 k3 k4; unfold BoolR at this; rwa [decide_eq_true rfl] at this))
    generalize u.1.length = m1 at *
    generalize u.2.length = m2 at *
    clear hpo hru hfu hfu2 hulen
    go_enter Tryz.func5, Tryz.ntmps5
    go_upto_region 1 with (fail)
    rw [hw1'.out]
    go_upto_region 3 with (go_at_call 15; (with_reducible refine Calls.mono (hfew.out _ hx11.out hx12.out) ?_); rintro e w2 ⟨rfl, hb2⟩; have hB2 := Lib.hid (below_on hB1.out hb2); have hx21 := Lib.hid (hx11.out.below hb2); have hx22 := Lib.hid (hx12.out.below hb2); have hk2 := Lib.hid (hk1.out.below hb2 hk1.out.lt); clear hb2)
    go_upto_region 4 with (go_at_call 7; (with_reducible refine Calls.mono (hpu.out _ (hT'.out.below hB2.out)) ?_); rintro e w3 ⟨⟨F1, g1, F2, g2, rfl, hf1, hf2⟩, hb3⟩; have hb3' := Lib.hid hb3; have hf1' := Lib.hid hf1; have hf2' := Lib.hid hf2; clear hb3 hf1 hf2)
    have hkF := Has.new w3 26 #[.slice F1 m1 g1, .slice F2 m2 g2]
    have alF := (Below.refl w3.heap.size w3).alloc (Nat.le_refl _) (.cells #[.slice F1 m1 g1, .slice F2 m2 g2] 26)
    obtain ⟨wF, hwF⟩ : ∃ X, w3.alloc (.cells #[.slice F1 m1 g1, .slice F2 m2 g2] 26) = X := ⟨_, rfl⟩
    rw [hwF] at hkF alF ⊢
    have alF2 := below_on hb3'.out alF
    have hBF := Lib.hid (below_on hB2.out alF2)
    have hxF1 := Lib.hid (hx21.out.below alF2)
    have hxF2 := Lib.hid (hx22.out.below alF2)
    have hkF2 := Lib.hid (hk2.out.below alF2 hk2.out.lt)
    have hfF1 := Lib.hid (hf1'.out.below alF)
    have hfF2 := Lib.hid (hf2'.out.below alF)
    have p0 : wF.cell? ⟨w3.heap.size, 0, none⟩ = some (.slice F1 m1 g1) := hkF.cell 0
    have p1 : wF.cell? ⟨w3.heap.size, 1, none⟩ = some (.slice F2 m2 g2) := hkF.cell 1
    have hkF' := Lib.hid hkF
    clear hwF hkF alF alF2 hb3' hx21 hx22 hk2 hB2 hx11 hx12 k10 k11 hk1 hf1' hf2'
    go_upto_region 8 with (first
      | (go_at_call 10; (with_reducible refine Calls.mono (num_any _ _) ?_); rintro e w99 ⟨rfl, hw99⟩; obtain rfl := hw99.symm)
      | (go_at_call 17; (with_reducible refine Calls.mono (uright.out _ _ _ _ _ hfF1.out) ?_); rintro e w4 ⟨rfl, hb4⟩; have hB4 := Lib.hid (below_on hBF.out hb4); have hx41 := Lib.hid (hxF1.out.below hb4); have hx42 := Lib.hid (hxF2.out.below hb4); have hk4 := Lib.hid (hkF2.out.below hb4 hkF2.out.lt); have hf41 := Lib.hid (hfF1.out.below hb4); have hf42 := Lib.hid (hfF2.out.below hb4); have hp4 := hkF'.out.below hb4 hkF'.out.lt; have p40 : w4.cell? ⟨w3.heap.size, 0, none⟩ = some (.slice F1 m1 g1) := hp4.cell 0; have p41 : w4.cell? ⟨w3.heap.size, 1, none⟩ = some (.slice F2 m2 g2) := hp4.cell 1; have hp4' := Lib.hid hp4; clear hb4 hp4)
      | (go_at_call 16; (with_reducible refine Calls.mono (utext.out _ _ _ _ _ (hT'.out.below hB4.out) hf41.out hf42.out) ?_); rintro e w5 ⟨rfl, hb5⟩; have hB5 := Lib.hid (below_on hB4.out hb5); have hx51 := Lib.hid (hx41.out.below hb5); have hx52 := Lib.hid (hx42.out.below hb5); have hk5 := Lib.hid (hk4.out.below hb5 hk4.out.lt); have hf51 := Lib.hid (hf41.out.below hb5); have hf52 := Lib.hid (hf42.out.below hb5); have hp5 := Lib.hid (hp4'.out.below hb5 hp4'.out.lt); clear hb5))
    clear hBF hxF1 hxF2 hkF2 hfF1 hfF2 p0 p1 hkF' hB4 hx41 hx42 hk4 hf41 hf42 hp4' p40 p41
    go_upto_region 9 with (go_at_call 7; (with_reducible refine Calls.mono (uparse.out _ (hT'.out.below hB5.out)) ?_); rintro e w6 ⟨⟨G1, h1, G2, h2, rfl, hg1, hg2⟩, hb6⟩; have hb6' := Lib.hid hb6; have hg1' := Lib.hid hg1; have hg2' := Lib.hid hg2; clear hb6 hg1 hg2)
    have hkG := Has.new w6 26 #[.slice G1 m1 h1, .slice G2 m2 h2]
    have alG := (Below.refl w6.heap.size w6).alloc (Nat.le_refl _) (.cells #[.slice G1 m1 h1, .slice G2 m2 h2] 26)
    obtain ⟨wG, hwG⟩ : ∃ X, w6.alloc (.cells #[.slice G1 m1 h1, .slice G2 m2 h2] 26) = X := ⟨_, rfl⟩
    rw [hwG] at hkG alG ⊢
    have alG2 := below_on hb6'.out alG
    have hBG := Lib.hid (below_on hB5.out alG2)
    have hxG1 := Lib.hid (hx51.out.below alG2)
    have hxG2 := Lib.hid (hx52.out.below alG2)
    have hkG2 := Lib.hid (hk5.out.below alG2 hk5.out.lt)
    have hfG1 := Lib.hid (hf51.out.below alG2)
    have hfG2 := Lib.hid (hf52.out.below alG2)
    have hgG1 := Lib.hid (hg1'.out.below alG)
    have hgG2 := Lib.hid (hg2'.out.below alG)
    have hpG := hp5.out.below alG2 hp5.out.lt
    have p0 : wG.cell? ⟨w3.heap.size, 0, none⟩ = some (.slice F1 m1 g1) := hpG.cell 0
    have p1 : wG.cell? ⟨w3.heap.size, 1, none⟩ = some (.slice F2 m2 g2) := hpG.cell 1
    have p2 : wG.cell? ⟨w6.heap.size, 0, none⟩ = some (.slice G1 m1 h1) := hkG.cell 0
    have p3 : wG.cell? ⟨w6.heap.size, 1, none⟩ = some (.slice G2 m2 h2) := hkG.cell 1
    clear hwG hkG alG alG2 hb6' hx51 hx52 hk5 hB5 hf51 hf52 hg1' hg2' hpG hp5
    go_upto_region 11 with (first
      | (go_at_call 10; (with_reducible refine Calls.mono (num_any _ _) ?_); rintro e w99 ⟨rfl, hw99⟩; obtain rfl := hw99.symm)
      | (go_at_call 21; (with_reducible refine Calls.mono (usame.out _ _ _ _ _ _ _ _ _ (hT'.out.below hBG.out) hfG1.out hfG2.out hgG1.out hgG2.out) ?_); rintro e w7 ⟨rfl, hb7⟩; have hB := Lib.hid (below_on hBG.out hb7); have hx1 := Lib.hid (hxG1.out.below hb7); have hx2 := Lib.hid (hxG2.out.below hb7); have hk := Lib.hid (hkG2.out.below hb7 hkG2.out.lt); clear hb7))
    clear hBG hxG1 hxG2 hkG2 hfG1 hfG2 hgG1 hgG2 p0 p1 p2 p3 uright utext uparse usame hpu
    have k0 : w7.cell? ⟨w.heap.size, 0, none⟩ = some (.slice A1 n1 c1) := hk.out.cell 0
    have k1 : w7.cell? ⟨w.heap.size, 1, none⟩ = some (.slice A2 n2 c2) := hk.out.cell 1
    cases hr : rightTg t with
    | false =>
      rw [hr] at hright
      go_wp2_with (first
        | (go_at_call 17; (with_reducible refine Calls.mono (hright.out _ hx1.out) ?_); rintro e w21 ⟨rfl, hb21⟩; have hB21 := Lib.hid (below_on hB.out hb21); clear hb21)
        | (go_at_call 6; (with_reducible refine Calls.mono (works_any hP _ (hT'.out.below hB21.out)) ?_); rintro e w22 ⟨rfl, hb22⟩; have hB22 := Lib.hid (below_on hB21.out hb22); clear hb22))
      go_ret
      exact ⟨rfl, hB22.out⟩
    | true =>
      rw [hr] at hright
      have htx := Lib.hid (htext.out hr)
      have hpr := Lib.hid (hparse.out hr)
      clear hr
      go_upto_region 14 with (first
        | (go_at_call 17; (with_reducible refine Calls.mono (hright.out _ hx1.out) ?_); rintro e w21 ⟨rfl, hb21⟩; have hB21 := Lib.hid (below_on hB.out hb21); have hx211 := Lib.hid (hx1.out.below hb21); have hx212 := Lib.hid (hx2.out.below hb21); have hk21 := hk.out.below hb21 hk.out.lt; have k210 : w21.cell? ⟨w.heap.size, 0, none⟩ = some (.slice A1 n1 c1) := hk21.cell 0; have k211 : w21.cell? ⟨w.heap.size, 1, none⟩ = some (.slice A2 n2 c2) := hk21.cell 1; have hk21' := Lib.hid hk21; clear hb21 hk21)
        | (go_at_call 16; (with_reducible refine Calls.mono (htx.out _ (hT'.out.below hB21.out) hx211.out hx212.out) ?_); rintro e w23 ⟨rfl, hb23⟩; have hB23 := Lib.hid (below_on hB21.out hb23); have hx231 := Lib.hid (hx211.out.below hb23); have hx232 := Lib.hid (hx212.out.below hb23); have hk23 := Lib.hid (hk21'.out.below hb23 hk21'.out.lt); clear hb23))
      go_upto_region 15 with (go_at_call 7; (with_reducible refine Calls.mono (hpr.out _ (hT'.out.below hB23.out)) ?_); rintro e w24 ⟨⟨E1, f1, E2, f2, rfl, hy1, hy2⟩, hb24⟩; have hb24' := Lib.hid hb24; have hy1' := Lib.hid hy1; have hy2' := Lib.hid hy2; clear hb24 hy1 hy2)
      have hkE := Has.new w24 26 #[.slice E1 n1 f1, .slice E2 n2 f2]
      have alE := (Below.refl w24.heap.size w24).alloc (Nat.le_refl _) (.cells #[.slice E1 n1 f1, .slice E2 n2 f2] 26)
      obtain ⟨wE, hwE⟩ : ∃ X, w24.alloc (.cells #[.slice E1 n1 f1, .slice E2 n2 f2] 26) = X := ⟨_, rfl⟩
      rw [hwE] at hkE alE ⊢
      have alE2 := below_on hb24'.out alE
      have hBE := Lib.hid (below_on hB23.out alE2)
      have hxE1 := Lib.hid (hx231.out.below alE2)
      have hxE2 := Lib.hid (hx232.out.below alE2)
      have hyE1 := Lib.hid (hy1'.out.below alE)
      have hyE2 := Lib.hid (hy2'.out.below alE)
      have hkE2 := hk23.out.below alE2 hk23.out.lt
      have a0 : wE.cell? ⟨w.heap.size, 0, none⟩ = some (.slice A1 n1 c1) := hkE2.cell 0
      have a1 : wE.cell? ⟨w.heap.size, 1, none⟩ = some (.slice A2 n2 c2) := hkE2.cell 1
      have b0 : wE.cell? ⟨w24.heap.size, 0, none⟩ = some (.slice E1 n1 f1) := hkE.cell 0
      have b1 : wE.cell? ⟨w24.heap.size, 1, none⟩ = some (.slice E2 n2 f2) := hkE.cell 1
      clear hwE hkE alE alE2 hkE2 hy1' hy2' hb24' hx231 hx232 hk23
      go_wp2_with (first
        | (go_at_call 10; (with_reducible refine Calls.mono (num_any _ _) ?_); rintro e w99 ⟨rfl, hw99⟩; obtain rfl := hw99.symm)
        | (go_at_call 21; (with_reducible refine Calls.mono (hsame.out _ _ _ _ _ (hT'.out.below hBE.out) hyE1.out hyE2.out hxE1.out hxE2.out) ?_); rintro e w25 ⟨rfl, hb25⟩; have hB25 := Lib.hid (below_on hBE.out hb25); clear hb25)
        | (go_at_call 6; (with_reducible refine Calls.mono (works_any hP _ (hT'.out.below hB25.out)) ?_); rintro e w26 ⟨rfl, hb26⟩; have hB26 := Lib.hid (below_on hB25.out hb26); clear hb26))
      go_ret
      exact ⟨rfl, hB26.out⟩
set_option maxRecDepth 100000 in
set_option maxHeartbeats 8000000 in
theorem holds_far (hP : TgProg) (A1 A2 : Option Addr) (c1 c2 : Nat) (t : TgL) (s : List UInt8) (w : World) (ha : ArgT t) (hs : ¬ (fewB t = true ∧ s.length ≤ 200)) (hT : TabT w) (hx : Txs w A1 t.1) (hq : Prs w A2 t.2) :
    Calls Tryz.prog 5 #[.agg #[.slice A1 t.1.length c1, .slice A2 t.2.length c2], .string ⟨s.toArray⟩] w (BoolR true w) := by
  unfold BoolR
  have hT' := Lib.hid hT
  have hfew := Lib.hid (fun W (k1 : Txs W A1 t.1) (k2 : Prs W A2 t.2) => few_any A1 A2 c1 c2 t W ha k1 k2)
  unfold BoolR at hfew
  have hk := box_tg w A1 A2 t.1.length c1 t.2.length c2
  have hal := (Below.refl w.heap.size w).alloc (Nat.le_refl _) (.cells #[.slice A1 t.1.length c1, .slice A2 t.2.length c2] 26)
  generalize t.1.length = n1 at *
  generalize t.2.length = n2 at *
  obtain ⟨w1, hw1⟩ : ∃ X, w.alloc (.cells #[.slice A1 n1 c1, .slice A2 n2 c2] 26) = X := ⟨_, rfl⟩
  rw [hw1] at hk hal
  have hw1' := Lib.hid hw1
  have hB1 := Lib.hid hal
  have hx11 := Lib.hid (hx.below hal)
  have hx12 := Lib.hid (hq.below hal)
  have k10 : w1.cell? ⟨w.heap.size, 0, none⟩ = some (.slice A1 n1 c1) := hk.cell 0
  have k11 : w1.cell? ⟨w.heap.size, 1, none⟩ = some (.slice A2 n2 c2) := hk.cell 1
  clear hw1 hal hx hq hk hT ha
  cases hf : fewB t with
  | false =>
    rw [hf] at hfew
    clear hs hf
    go_enter Tryz.func5, Tryz.ntmps5
    go_upto_region 1 with (fail)
    rw [hw1'.out]
    go_wp2_with (first
      | (go_at_call 15; (with_reducible refine Calls.mono (hfew.out _ hx11.out hx12.out) ?_); rintro e w2 ⟨rfl, hb2⟩; have hB2 := Lib.hid (below_on hB1.out hb2); clear hb2)
      | (go_at_call 6; (with_reducible refine Calls.mono (works_any hP _ (hT'.out.below hB2.out)) ?_); rintro e w22 ⟨rfl, hb22⟩; have hB22 := Lib.hid (below_on hB2.out hb22); clear hb22))
    go_ret
    exact ⟨rfl, hB22.out⟩
  | true =>
    have hsI : (200 : Int) < (s.length : Int) := by have : ¬ s.length ≤ 200 := fun h => hs ⟨hf, h⟩; omega
    rw [hf] at hfew
    clear hs hf
    go_enter Tryz.func5, Tryz.ntmps5
    go_upto_region 1 with (fail)
    rw [hw1'.out]
    go_wp2_with (first
      | (go_at_call 15; (with_reducible refine Calls.mono (hfew.out _ hx11.out hx12.out) ?_); rintro e w2 ⟨rfl, hb2⟩; have hB2 := Lib.hid (below_on hB1.out hb2); clear hb2)
      | (go_at_call 6; (with_reducible refine Calls.mono (works_any hP _ (hT'.out.below hB2.out)) ?_); rintro e w22 ⟨rfl, hb22⟩; have hB22 := Lib.hid (below_on hB2.out hb22); clear hb22))
    go_ret
    exact ⟨rfl, hB22.out⟩
end Go.Proofs.YtcogdfgmmpfkkaaGreatDoor
