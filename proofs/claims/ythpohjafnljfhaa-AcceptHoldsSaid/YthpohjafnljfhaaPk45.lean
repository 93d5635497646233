import Derived.Test.YthpohjafnljfhaaPk44
import Derived.Test.YthpohjafnljfhaaPk39
import Derived.BigQuiet
import Derived.Deep.QuietTactic
namespace Go.Proofs.Ythpohjafnljfhaa
open Go.RowKit Lib

/-! ## The law of AcceptHolds -/
theorem run_quo_at (P : Program) (w : World) (t : TypeId) {k : Nat} (hk : k ≤ 1000) : (binOp .quo t (.float .f64 (floatOfInt .f64 (k : Int))) (.float .f64 4652007308841189376)).run P w = .ok (.float .f64 (wt k)) w := run_float_arith w .quo t .f64 _ _ _ (by
  have := wt_some ⟨k, by omega⟩
  rw [thousand] at this
  exact this)
theorem wt_lt {k : Nat} (hk : k ≤ 1000) : wt k < 2 ^ 64 := (by decide +kernel : ∀ n : Fin 1001, wt n.1 < 2 ^ 64) ⟨k, by omega⟩
attribute [local go_sem] Oper.semAt_some run_frombits run_quo_at
/-- How two words stand to each other, and what they weigh. -/
theorem fl_cases (x y : Nat) : (FloatKind.f64.format.order x y = none ∧ FloatKind.f64.format.order x x = none ∧ weighF x = 0) ∨
    (FloatKind.f64.format.order x x = some .eq ∧ (FloatKind.f64.format.order x y = none ∨ FloatKind.f64.format.order x y = some .gt ∨ (FloatKind.f64.format.order x y = some .lt ∧ weighF x ≤ weighF y) ∨ (FloatKind.f64.format.order x y = some .eq ∧ weighF x ≤ weighF y))) := by
  have hm := weighF_mono (x := x) (y := y)
  unfold leF at hm
  show (Ieee.double.order x y = none ∧ Ieee.double.order x x = none ∧ _) ∨ (Ieee.double.order x x = some .eq ∧ (Ieee.double.order x y = none ∨ Ieee.double.order x y = some .gt ∨ (Ieee.double.order x y = some .lt ∧ _) ∨ (Ieee.double.order x y = some .eq ∧ _)))
  have hx := order_val x x
  have hxy := order_val x y
  cases hv : valF x with
  | none =>
    rw [hv] at hx hxy
    refine .inl ⟨hxy, hx, ?_⟩
    unfold weighF
    rw [hv]
  | some v =>
    rw [hv] at hx
    refine .inr ⟨by rw [hx]; exact congrArg some (Int.compare_eq_eq.2 rfl), ?_⟩
    cases ho : Ieee.double.order x y with
    | none => exact .inl rfl
    | some o =>
      rw [ho] at hm
      cases o with
      | lt => exact .inr (.inr (.inl ⟨rfl, hm rfl⟩))
      | eq => exact .inr (.inr (.inr ⟨rfl, hm rfl⟩))
      | gt => exact .inr (.inl rfl)
theorem holdsA_far (hP : AcProg) (s : List UInt8) (n m k : Int) (w : World) (hs : ¬ s.length ≤ 200) (hT : TabA w) : Calls Try.prog 4 #[.string ⟨s.toArray⟩, .int .u64 n, .int .u64 m, .int .i64 k] w (BoolR true w) := by
  unfold BoolR
  have hw := Lib.hid (worksA_any hP w hT)
  unfold BoolR at hw
  have hsI : (200 : Int) < (s.length : Int) := by omega
  clear hs hT
  go_enter Try.func4, Try.ntmps4
  go_wp2_with (go_at_call 8; (with_reducible refine Calls.mono hw.out ?_); rintro e w1 ⟨rfl, hb1⟩)
  go_ret
  exact ⟨rfl, hb1⟩
/-- A number of thousandths, or another one. -/
def KC (k : Int) : Prop := k < 0 ∨ 1000 < k ∨ ∃ j : Nat, k = (j : Int) ∧ j ≤ 1000
theorem kc (k : Int) : KC k := by
  rcases Int.lt_or_le k 0 with h | h
  · exact .inl h
  · rcases Int.lt_or_le 1000 k with h1 | h1
    · exact .inr (.inl h1)
    · exact .inr (.inr ⟨k.toNat, by omega, by omega⟩)
set_option maxRecDepth 100000 in
set_option maxHeartbeats 16000000 in
theorem holdsA_none (hP : AcProg) (s : List UInt8) (n m k : Int) (w : World) (hs : s.length ≤ 200) (hT : TabA w) (hn : n.toNat < 2 ^ 64) (hm : m.toNat < 2 ^ 64) (hno : Ac.list s = none) :
    Calls Try.prog 4 #[.string ⟨s.toArray⟩, .int .u64 n, .int .u64 m, .int .i64 k] w (BoolR true w) := by
  unfold BoolR
  have hT' := Lib.hid hT
  have wx := Lib.hid (fun W hW => hP.weigh n.toNat W hW hn)
  have wy := Lib.hid (fun W hW => hP.weigh m.toNat W hW hm)
  have hwk := Lib.hid (fun W hW => worksA_any hP W hW)
  unfold BoolR at hwk
  have ha1 := weighF_le n.toNat
  have hfl := fl_cases n.toNat m.toNat
  have hkc := kc k
  have hsI : ¬ (200 : Int) < (s.length : Int) := by omega
  have hp := Lib.hid (fun W hW => hP.parse s W hW (by omega))
  rw [hno] at hp
  unfold RgsR orA errA at hp
  simp only [Option.getD_none, List.length_nil, Option.isSome_none, Bool.false_eq_true, if_false] at hp
  clear hno hs hT hn hm
  go_enter Try.func4, Try.ntmps4
  go_upto_region 4 with (go_at_call 9; (with_reducible refine Calls.mono (hp.out _ hT'.out) ?_); rintro e w1 ⟨⟨A, c, rfl, _⟩, hb⟩; have hBa := Lib.hid hb; have hTa := Lib.hid (hT'.out.below hb); clear hb)
  clear hp hT'
  go_wp2
  go_loopw [11] (fun x W => x = .int .i64 0 ∧ W = w1) (fun _ _ => 0)
  case atStart => exact ⟨rfl, rfl⟩
  case round =>
    obtain ⟨rfl, rfl⟩ := hrel
    go_upto_region 10 with (go_at_call 10; (with_reducible refine Calls.mono (numA_any _ _) ?_); rintro e w9 ⟨rfl, hw9⟩; obtain rfl := hw9.symm)
    rcases hfl with ⟨e1, e2, e3⟩ | ⟨e2, h⟩
    · rw [e3] at wx ha1
      clear e3
      generalize weighF m.toNat = b at *
      rcases hkc with hk | hk | ⟨j, rfl, hj⟩
      · go_wp2_with (first
          | (go_at_call 6; (with_reducible refine Calls.mono (wx.out _ hTa.out) ?_); rintro e u1 ⟨rfl, hb⟩; have hBb := Lib.hid (below_on hBa.out hb); have hTb := Lib.hid (hTa.out.below hb); clear hb)
          | (go_at_call 6; (with_reducible refine Calls.mono (wy.out _ hTb.out) ?_); rintro e u2 ⟨rfl, hb⟩; have hBc := Lib.hid (below_on hBb.out hb); have hTc := Lib.hid (hTb.out.below hb); clear hb)
          | (go_at_call 6; (with_reducible refine Calls.mono (wz.out _ hTc.out) ?_); rintro e u3 ⟨rfl, hb⟩; have hBd := Lib.hid (below_on hBc.out hb); have hTd := Lib.hid (hTc.out.below hb); clear hb)
          | (go_at_call 8; (with_reducible refine Calls.mono (hwk.out _ hTd.out) ?_); rintro e u4 ⟨rfl, hb⟩; have hBe := Lib.hid (below_on hBd.out hb); clear hb)
          | (go_at_call 8; (with_reducible refine Calls.mono (hwk.out _ hTc.out) ?_); rintro e u4 ⟨rfl, hb⟩; have hBe := Lib.hid (below_on hBc.out hb); clear hb))
        go_ret
        exact ⟨rfl, hBe.out⟩
      · have hk0 : ¬ k < 0 := by omega
        go_wp2_with (first
          | (go_at_call 6; (with_reducible refine Calls.mono (wx.out _ hTa.out) ?_); rintro e u1 ⟨rfl, hb⟩; have hBb := Lib.hid (below_on hBa.out hb); have hTb := Lib.hid (hTa.out.below hb); clear hb)
          | (go_at_call 6; (with_reducible refine Calls.mono (wy.out _ hTb.out) ?_); rintro e u2 ⟨rfl, hb⟩; have hBc := Lib.hid (below_on hBb.out hb); have hTc := Lib.hid (hTb.out.below hb); clear hb)
          | (go_at_call 6; (with_reducible refine Calls.mono (wz.out _ hTc.out) ?_); rintro e u3 ⟨rfl, hb⟩; have hBd := Lib.hid (below_on hBc.out hb); have hTd := Lib.hid (hTc.out.below hb); clear hb)
          | (go_at_call 8; (with_reducible refine Calls.mono (hwk.out _ hTd.out) ?_); rintro e u4 ⟨rfl, hb⟩; have hBe := Lib.hid (below_on hBd.out hb); clear hb)
          | (go_at_call 8; (with_reducible refine Calls.mono (hwk.out _ hTc.out) ?_); rintro e u4 ⟨rfl, hb⟩; have hBe := Lib.hid (below_on hBc.out hb); clear hb))
        go_ret
        exact ⟨rfl, hBe.out⟩
      · have wz := Lib.hid (fun W hW => hP.weigh (wt j) W hW (wt_lt hj))
        rw [weighF_at hj] at wz
        have hk0 : ¬ (j : Int) < 0 := by omega
        have hk1 : ¬ (1000 : Int) < (j : Int) := by omega
        go_wp2_with (first
          | (go_at_call 6; (with_reducible refine Calls.mono (wx.out _ hTa.out) ?_); rintro e u1 ⟨rfl, hb⟩; have hBb := Lib.hid (below_on hBa.out hb); have hTb := Lib.hid (hTa.out.below hb); clear hb)
          | (go_at_call 6; (with_reducible refine Calls.mono (wy.out _ hTb.out) ?_); rintro e u2 ⟨rfl, hb⟩; have hBc := Lib.hid (below_on hBb.out hb); have hTc := Lib.hid (hTb.out.below hb); clear hb)
          | (go_at_call 6; (with_reducible refine Calls.mono (wz.out _ hTc.out) ?_); rintro e u3 ⟨rfl, hb⟩; have hBd := Lib.hid (below_on hBc.out hb); have hTd := Lib.hid (hTc.out.below hb); clear hb)
          | (go_at_call 8; (with_reducible refine Calls.mono (hwk.out _ hTd.out) ?_); rintro e u4 ⟨rfl, hb⟩; have hBe := Lib.hid (below_on hBd.out hb); clear hb)
          | (go_at_call 8; (with_reducible refine Calls.mono (hwk.out _ hTc.out) ?_); rintro e u4 ⟨rfl, hb⟩; have hBe := Lib.hid (below_on hBc.out hb); clear hb))
        go_ret
        exact ⟨rfl, hBe.out⟩
    · have hle : Hid (FloatKind.f64.format.order n.toNat m.toNat = none ∨ FloatKind.f64.format.order n.toNat m.toNat = some .gt ∨ (FloatKind.f64.format.order n.toNat m.toNat = some .lt ∧ weighF n.toNat ≤ weighF m.toNat) ∨ (FloatKind.f64.format.order n.toNat m.toNat = some .eq ∧ weighF n.toNat ≤ weighF m.toNat)) := Lib.hid h
      clear h
      generalize weighF n.toNat = a at *
      generalize weighF m.toNat = b at *
      have aI0 : ¬ (a : Int) < 0 := by omega
      have aI1 : ¬ (1000 : Int) < (a : Int) := by omega
      rcases hle.out with e1 | e1 | ⟨e1, h⟩ | ⟨e1, h⟩
      all_goals
        clear hle
        try (have abI : ¬ (b : Int) < (a : Int) := by omega)
        try clear h
        rcases hkc with hk | hk | ⟨j, rfl, hj⟩
        · go_wp2_with (first
            | (go_at_call 6; (with_reducible refine Calls.mono (wx.out _ hTa.out) ?_); rintro e u1 ⟨rfl, hb⟩; have hBb := Lib.hid (below_on hBa.out hb); have hTb := Lib.hid (hTa.out.below hb); clear hb)
            | (go_at_call 6; (with_reducible refine Calls.mono (wy.out _ hTb.out) ?_); rintro e u2 ⟨rfl, hb⟩; have hBc := Lib.hid (below_on hBb.out hb); have hTc := Lib.hid (hTb.out.below hb); clear hb)
            | (go_at_call 6; (with_reducible refine Calls.mono (wz.out _ hTc.out) ?_); rintro e u3 ⟨rfl, hb⟩; have hBd := Lib.hid (below_on hBc.out hb); have hTd := Lib.hid (hTc.out.below hb); clear hb)
            | (go_at_call 8; (with_reducible refine Calls.mono (hwk.out _ hTd.out) ?_); rintro e u4 ⟨rfl, hb⟩; have hBe := Lib.hid (below_on hBd.out hb); clear hb)
            | (go_at_call 8; (with_reducible refine Calls.mono (hwk.out _ hTc.out) ?_); rintro e u4 ⟨rfl, hb⟩; have hBe := Lib.hid (below_on hBc.out hb); clear hb))
          go_ret
          exact ⟨rfl, hBe.out⟩
        · have hk0 : ¬ k < 0 := by omega
          go_wp2_with (first
            | (go_at_call 6; (with_reducible refine Calls.mono (wx.out _ hTa.out) ?_); rintro e u1 ⟨rfl, hb⟩; have hBb := Lib.hid (below_on hBa.out hb); have hTb := Lib.hid (hTa.out.below hb); clear hb)
            | (go_at_call 6; (with_reducible refine Calls.mono (wy.out _ hTb.out) ?_); rintro e u2 ⟨rfl, hb⟩; have hBc := Lib.hid (below_on hBb.out hb); have hTc := Lib.hid (hTb.out.below hb); clear hb)
            | (go_at_call 6; (with_reducible refine Calls.mono (wz.out _ hTc.out) ?_); rintro e u3 ⟨rfl, hb⟩; have hBd := Lib.hid (below_on hBc.out hb); have hTd := Lib.hid (hTc.out.below hb); clear hb)
            | (go_at_call 8; (with_reducible refine Calls.mono (hwk.out _ hTd.out) ?_); rintro e u4 ⟨rfl, hb⟩; have hBe := Lib.hid (below_on hBd.out hb); clear hb)
            | (go_at_call 8; (with_reducible refine Calls.mono (hwk.out _ hTc.out) ?_); rintro e u4 ⟨rfl, hb⟩; have hBe := Lib.hid (below_on hBc.out hb); clear hb))
          go_ret
          exact ⟨rfl, hBe.out⟩
        · have wz := Lib.hid (fun W hW => hP.weigh (wt j) W hW (wt_lt hj))
          rw [weighF_at hj] at wz
          have hk0 : ¬ (j : Int) < 0 := by omega
          have hk1 : ¬ (1000 : Int) < (j : Int) := by omega
          go_wp2_with (first
            | (go_at_call 6; (with_reducible refine Calls.mono (wx.out _ hTa.out) ?_); rintro e u1 ⟨rfl, hb⟩; have hBb := Lib.hid (below_on hBa.out hb); have hTb := Lib.hid (hTa.out.below hb); clear hb)
            | (go_at_call 6; (with_reducible refine Calls.mono (wy.out _ hTb.out) ?_); rintro e u2 ⟨rfl, hb⟩; have hBc := Lib.hid (below_on hBb.out hb); have hTc := Lib.hid (hTb.out.below hb); clear hb)
            | (go_at_call 6; (with_reducible refine Calls.mono (wz.out _ hTc.out) ?_); rintro e u3 ⟨rfl, hb⟩; have hBd := Lib.hid (below_on hBc.out hb); have hTd := Lib.hid (hTc.out.below hb); clear hb)
            | (go_at_call 8; (with_reducible refine Calls.mono (hwk.out _ hTd.out) ?_); rintro e u4 ⟨rfl, hb⟩; have hBe := Lib.hid (below_on hBd.out hb); clear hb)
            | (go_at_call 8; (with_reducible refine Calls.mono (hwk.out _ hTc.out) ?_); rintro e u4 ⟨rfl, hb⟩; have hBe := Lib.hid (below_on hBc.out hb); clear hb))
          go_ret
          exact ⟨rfl, hBe.out⟩
end Go.Proofs.Ythpohjafnljfhaa
