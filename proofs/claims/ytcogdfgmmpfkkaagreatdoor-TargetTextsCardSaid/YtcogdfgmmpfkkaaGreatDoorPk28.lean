import Derived.Test.YtcogdfgmmpfkkaaGreatDoorPk27
namespace Go.Proofs.YtcogdfgmmpfkkaaGreatDoor
open Go.RowKit
attribute [local go_sem] Oper.semAt_some

/-! ## The law's few, num (written by gen11k.py) -/
def fewB (t : TgL) : Bool := (decide (t.1.length ≤ 20) && decide (t.2.length ≤ 20)) && ((t.1.all fun x => decide (x.length ≤ 60)) && (t.2.all fun q => decide (q.1.length + q.2.length ≤ 120)))
theorem few_part {p : List (List UInt8)} {qs : List PairL} {x : List UInt8} (h : x ∈ p) (hx : ¬ x.length ≤ 60) : fewB (p, qs) = false := by
  have : (p.all fun x => decide (x.length ≤ 60)) = false := by
    rw [List.all_eq_false]
    exact ⟨x, h, by simpa using hx⟩
  unfold fewB
  simp [this]
theorem few_pair {p : List (List UInt8)} {qs : List PairL} {q : PairL} (h : q ∈ qs) (hx : ¬ q.1.length + q.2.length ≤ 120) : fewB (p, qs) = false := by
  have : (qs.all fun q => decide (q.1.length + q.2.length ≤ 120)) = false := by
    rw [List.all_eq_false]
    exact ⟨q, h, by simpa using hx⟩
  unfold fewB
  simp [this]
theorem few_many2 {p : List (List UInt8)} {qs : List PairL} (h : ¬ qs.length ≤ 20) : fewB (p, qs) = false := by
  unfold fewB
  simp [h]
theorem few_all {p : List (List UInt8)} {qs : List PairL} (h1 : p.length ≤ 20 → (p.all fun x => decide (x.length ≤ 60)) = true) (h2 : qs.length ≤ 20 → (qs.all fun q => decide (q.1.length + q.2.length ≤ 120)) = true) : fewB (p, qs) = (decide (p.length ≤ 20) && decide (qs.length ≤ 20)) := by
  unfold fewB
  simp only
  by_cases a : p.length ≤ 20
  · by_cases b : qs.length ≤ 20
    · rw [h1 a, h2 b]; simp
    · simp [b]
  · simp [a]
theorem fewB_few {t : TgL} (h : fewB t = true) : t.1.length ≤ 20 ∧ t.2.length ≤ 20 ∧ (∀ x ∈ t.1, x.length ≤ 60) ∧ ∀ q ∈ t.2, q.1.length + q.2.length ≤ 120 := by
  unfold fewB at h
  simp only [Bool.and_eq_true, decide_eq_true_eq, List.all_eq_true] at h
  exact ⟨h.1.1, h.1.2, h.2.1, h.2.2⟩
theorem fewB_fewT {t : TgL} (h : fewB t = true) : FewT t := by
  obtain ⟨h1, h2, h3, h4⟩ := fewB_few h
  exact ⟨by omega, by omega, fun x hx => by have := h3 x hx; omega, fun q hq => by have := h4 q hq; omega⟩
/-- How great a target may be that came in. -/
structure ArgT (t : TgL) : Prop where
  parts : t.1.length ≤ 4611686018427387903
  pairs : t.2.length ≤ 4611686018427387903
  part : ∀ x ∈ t.1, x.length ≤ 4611686018427387903
  pair : ∀ q ∈ t.2, q.1.length + q.2.length ≤ 4611686018427387903
set_option maxRecDepth 100000 in
set_option maxHeartbeats 8000000 in
theorem few_any (A1 A2 : Option Addr) (c1 c2 : Nat) (t : TgL) (w : World) (ht : ArgT t) (h1 : Txs w A1 t.1) (h2 : Prs w A2 t.2) : Calls Tryz.prog 15 #[.agg #[.slice A1 t.1.length c1, .slice A2 t.2.length c2]] w (BoolR (fewB t) w) := by
  unfold BoolR
  obtain ⟨p, qs⟩ := t
  obtain ⟨hp, hq, hpl0, hql0⟩ := ht
  simp only at *
  have hk := box_tg w A1 A2 p.length c1 qs.length c2
  have hal := (Below.refl w.heap.size w).alloc (Nat.le_refl _) (.cells #[.slice A1 p.length c1, .slice A2 qs.length c2] 26)
  obtain ⟨w1, hw1⟩ : ∃ X, w.alloc (.cells #[.slice A1 p.length c1, .slice A2 qs.length c2] 26) = X := ⟨_, rfl⟩
  rw [hw1] at hk hal
  have hw1' := Lib.hid hw1
  have hal' := Lib.hid hal
  have hx1 := Lib.hid (h1.below hal)
  have hx2 := Lib.hid (h2.below hal)
  have hpl := Lib.hid hpl0
  have hql := Lib.hid hql0
  have a0 : ∀ m, (w1.drewN m).cell? ⟨w.heap.size, 0, none⟩ = some (.slice A1 p.length c1) := fun m => (hk.drewN m).cell 0
  have a1 : ∀ m, (w1.drewN m).cell? ⟨w.heap.size, 1, none⟩ = some (.slice A2 qs.length c2) := fun m => (hk.drewN m).cell 1
  have z0 : w1.cell? ⟨w.heap.size, 0, none⟩ = some (.slice A1 p.length c1) := a0 0
  have z1 : w1.cell? ⟨w.heap.size, 1, none⟩ = some (.slice A2 qs.length c2) := a1 0
  clear hw1 h1 h2 hk hal hpl0 hql0
  go_enter Tryz.func15, Tryz.ntmps15
  go_upto_region 1 with (fail)
  rw [hw1'.out]
  go_wp2
  go_loopw [3] (fun x W => ∃ k : Nat, k ≤ p.length ∧ k ≤ 21 ∧ x = .int .i64 (k : Int) ∧ ((p.take k).all fun x => decide (x.length ≤ 60)) = true ∧ W = w1) (fun x _ => p.length - (intOf x).toNat)
  case atStart => exact ⟨0, Nat.zero_le _, by omega, rfl, by simp, rfl⟩
  case round =>
    obtain ⟨k, hk, hk2, rfl, hat, hW⟩ := hrel
    obtain rfl := hW
    by_cases hlt : k < p.length
    · have hltI : (k : Int) < (p.length : Int) := by omega
      by_cases h20 : k ≤ 20
      · have h20I : (k : Int) ≤ 20 := by omega
        obtain ⟨b, o, hA, _, hc⟩ := hx1.out (by omega)
        subst hA
        have m1 := hc k _ (List.getElem?_eq_getElem hlt)
        have hs1 := hpl.out _ (List.getElem_mem hlt)
        have htk := Lib.hid (take_next p hlt)
        have hmem := Lib.hid (List.getElem_mem hlt)
        have hat' := Lib.hid hat
        clear hc hat
        generalize p[k] = y at *
        by_cases hbig : y.length ≤ 60
        · have hbI : ¬ (60 : Int) < (y.length : Int) := by omega
          go_wp2
          exact ⟨⟨k + 1, by omega, by omega, by go_num, by rw [htk.out, List.all_append, hat'.out]; simp [hbig], trivial⟩, by simp [intOf]; omega⟩
        · have hbI : (60 : Int) < (y.length : Int) := by omega
          go_wp2
          go_ret
          exact ⟨ret_bool (few_part hmem.out hbig).symm, hal'.out⟩
      · have h20I : ¬ (k : Int) ≤ 20 := by omega
        have hP := Lib.hid (show p.length ≤ 20 → (p.all fun x => decide (x.length ≤ 60)) = true from fun h => by omega)
        clear hat
        go_wp2
        obtain ⟨w1, hW1⟩ : ∃ X, X = wr := ⟨_, rfl⟩
        obtain rfl := hW1
        go_loopw [4] (fun x W => ∃ k : Nat, k ≤ qs.length ∧ k ≤ 21 ∧ x = .int .i64 (k : Int) ∧ ((qs.take k).all fun q => decide (q.1.length + q.2.length ≤ 120)) = true ∧ ∃ q, W = w1.drewN q) (fun x _ => qs.length - (intOf x).toNat)
        case atStart => exact ⟨0, Nat.zero_le _, by omega, rfl, by simp, 0, rfl⟩
        case round =>
          obtain ⟨k, hk, hk2, rfl, hat, n, rfl⟩ := hrel
          have x1 : (w1.drewN n).cell? ⟨w.heap.size, 1, none⟩ = some (.slice A2 qs.length c2) := a1 n
          have x0 : (w1.drewN n).cell? ⟨w.heap.size, 0, none⟩ = some (.slice A1 p.length c1) := a0 n
          by_cases hlt : k < qs.length
          · have hltI : (k : Int) < (qs.length : Int) := by omega
            by_cases h20 : k ≤ 20
            · have h20I : (k : Int) ≤ 20 := by omega
              obtain ⟨b, o, hA, _, hc⟩ := hx2.out (by omega)
              subst hA
              obtain ⟨j1, j2⟩ := hc k _ (List.getElem?_eq_getElem hlt)
              have m1 : ∀ m, (w1.drewN m).cell? ⟨b, o + k * 2, none⟩ = some (.string ⟨qs[k].1.toArray⟩) := fun m => j1
              have m2 : ∀ m, (w1.drewN m).cell? ⟨b, o + k * 2 + 1, none⟩ = some (.string ⟨qs[k].2.toArray⟩) := fun m => j2
              have hs1 := hql.out _ (List.getElem_mem hlt)
              have htk := take_next qs hlt
              have hmem := List.getElem_mem hlt
              clear hc j1 j2
              obtain ⟨q1, hq1⟩ : ∃ x, qs[k].1 = x := ⟨_, rfl⟩
              obtain ⟨q2, hq2⟩ : ∃ x, qs[k].2 = x := ⟨_, rfl⟩
              rw [hq1] at m1 hs1
              rw [hq2] at m2 hs1
              have hsw : IntKind.i64.wrap ((q1.length : Int) + (q2.length : Int)) = (q1.length : Int) + (q2.length : Int) := by rw [IntKind.wrap_i64]; omega
              have hat' := Lib.hid hat
              have hq1' := Lib.hid hq1
              have hq2' := Lib.hid hq2
              have htk' := Lib.hid htk
              have hmem' := Lib.hid hmem
              clear hat hq1 hq2 htk hmem
              by_cases hbig : q1.length + q2.length ≤ 120
              · have hbI : ¬ (120 : Int) < (q1.length : Int) + (q2.length : Int) := by omega
                go_wp2
                go_quiet (fail)
                go_wp2
                exact ⟨⟨k + 1, by omega, by omega, by go_num, by rw [htk'.out, List.all_append, hat'.out]; simp [hq1'.out, hq2'.out, hbig], _, rfl⟩, by simp [intOf]; omega⟩
              · have hbI : (120 : Int) < (q1.length : Int) + (q2.length : Int) := by omega
                go_wp2
                go_quiet (fail)
                go_wp2
                go_ret
                refine ⟨ret_bool (Eq.symm ?_), below_draws (below_draws hal'.out n) _⟩
                exact few_pair hmem'.out (by rw [hq1'.out, hq2'.out]; exact hbig)
            · have h20I : ¬ (k : Int) ≤ 20 := by omega
              have hbig : ¬ (qs.length : Int) ≤ 20 := by omega
              have hfalse := Lib.hid (show fewB (p, qs) = false from few_many2 (by omega))
              by_cases hp20 : p.length ≤ 20
              · first
                  | (exfalso; omega)
                  | (have hp20I : (p.length : Int) ≤ 20 := by omega
                     go_wp2
                     go_ret
                     exact ⟨ret_bool (by rw [hfalse.out]), below_draws hal'.out n⟩)
              · have hp20I : ¬ (p.length : Int) ≤ 20 := by omega
                go_wp2
                go_ret
                exact ⟨ret_bool (by rw [hfalse.out]), below_draws hal'.out n⟩
          · obtain rfl : k = qs.length := by omega
            have hltI : ¬ (qs.length : Int) < (qs.length : Int) := by omega
            rw [List.take_length] at hat
            have hat' := Lib.hid hat
            clear hat
            have hr' := Lib.hid (few_all hP.out (fun _ => hat'.out))
            by_cases hq20 : qs.length ≤ 20
            · have hq20I : (qs.length : Int) ≤ 20 := by omega
              by_cases hp20 : p.length ≤ 20
              · first
                  | (exfalso; omega)
                  | (have hp20I : (p.length : Int) ≤ 20 := by omega
                     go_wp2
                     go_ret
                     exact ⟨ret_bool (by rw [hr'.out]; simp [hp20, hq20]), below_draws hal'.out n⟩)
              · have hp20I : ¬ (p.length : Int) ≤ 20 := by omega
                go_wp2
                go_ret
                exact ⟨ret_bool (by rw [hr'.out]; simp [hp20, hq20]), below_draws hal'.out n⟩
            · have hq20I : ¬ (qs.length : Int) ≤ 20 := by omega
              by_cases hp20 : p.length ≤ 20
              · first
                  | (exfalso; omega)
                  | (have hp20I : (p.length : Int) ≤ 20 := by omega
                     go_wp2
                     go_ret
                     exact ⟨ret_bool (by rw [hr'.out]; simp [hp20, hq20]), below_draws hal'.out n⟩)
              · have hp20I : ¬ (p.length : Int) ≤ 20 := by omega
                go_wp2
                go_ret
                exact ⟨ret_bool (by rw [hr'.out]; simp [hp20, hq20]), below_draws hal'.out n⟩
    · obtain rfl : k = p.length := by omega
      have hltI : ¬ (p.length : Int) < (p.length : Int) := by omega
      rw [List.take_length] at hat
      have hP := Lib.hid (show p.length ≤ 20 → (p.all fun x => decide (x.length ≤ 60)) = true from fun _ => hat)
      clear hat
      go_wp2
      obtain ⟨w1, hW1⟩ : ∃ X, X = wr := ⟨_, rfl⟩
      obtain rfl := hW1
      go_loopw [4] (fun x W => ∃ k : Nat, k ≤ qs.length ∧ k ≤ 21 ∧ x = .int .i64 (k : Int) ∧ ((qs.take k).all fun q => decide (q.1.length + q.2.length ≤ 120)) = true ∧ ∃ q, W = w1.drewN q) (fun x _ => qs.length - (intOf x).toNat)
      case atStart => exact ⟨0, Nat.zero_le _, by omega, rfl, by simp, 0, rfl⟩
      case round =>
        obtain ⟨k, hk, hk2, rfl, hat, n, rfl⟩ := hrel
        have x1 : (w1.drewN n).cell? ⟨w.heap.size, 1, none⟩ = some (.slice A2 qs.length c2) := a1 n
        have x0 : (w1.drewN n).cell? ⟨w.heap.size, 0, none⟩ = some (.slice A1 p.length c1) := a0 n
        by_cases hlt : k < qs.length
        · have hltI : (k : Int) < (qs.length : Int) := by omega
          by_cases h20 : k ≤ 20
          · have h20I : (k : Int) ≤ 20 := by omega
            obtain ⟨b, o, hA, _, hc⟩ := hx2.out (by omega)
            subst hA
            obtain ⟨j1, j2⟩ := hc k _ (List.getElem?_eq_getElem hlt)
            have m1 : ∀ m, (w1.drewN m).cell? ⟨b, o + k * 2, none⟩ = some (.string ⟨qs[k].1.toArray⟩) := fun m => j1
            have m2 : ∀ m, (w1.drewN m).cell? ⟨b, o + k * 2 + 1, none⟩ = some (.string ⟨qs[k].2.toArray⟩) := fun m => j2
            have hs1 := hql.out _ (List.getElem_mem hlt)
            have htk := take_next qs hlt
            have hmem := List.getElem_mem hlt
            clear hc j1 j2
            obtain ⟨q1, hq1⟩ : ∃ x, qs[k].1 = x := ⟨_, rfl⟩
            obtain ⟨q2, hq2⟩ : ∃ x, qs[k].2 = x := ⟨_, rfl⟩
            rw [hq1] at m1 hs1
            rw [hq2] at m2 hs1
            have hsw : IntKind.i64.wrap ((q1.length : Int) + (q2.length : Int)) = (q1.length : Int) + (q2.length : Int) := by rw [IntKind.wrap_i64]; omega
            have hat' := Lib.hid hat
            have hq1' := Lib.hid hq1
            have hq2' := Lib.hid hq2
            have htk' := Lib.hid htk
            have hmem' := Lib.hid hmem
            clear hat hq1 hq2 htk hmem
            by_cases hbig : q1.length + q2.length ≤ 120
            · have hbI : ¬ (120 : Int) < (q1.length : Int) + (q2.length : Int) := by omega
              go_wp2
              go_quiet (fail)
              go_wp2
              exact ⟨⟨k + 1, by omega, by omega, by go_num, by rw [htk'.out, List.all_append, hat'.out]; simp [hq1'.out, hq2'.out, hbig], _, rfl⟩, by simp [intOf]; omega⟩
            · have hbI : (120 : Int) < (q1.length : Int) + (q2.length : Int) := by omega
              go_wp2
              go_quiet (fail)
              go_wp2
              go_ret
              refine ⟨ret_bool (Eq.symm ?_), below_draws (below_draws hal'.out n) _⟩
              exact few_pair hmem'.out (by rw [hq1'.out, hq2'.out]; exact hbig)
          · have h20I : ¬ (k : Int) ≤ 20 := by omega
            have hbig : ¬ (qs.length : Int) ≤ 20 := by omega
            have hfalse := Lib.hid (show fewB (p, qs) = false from few_many2 (by omega))
            by_cases hp20 : p.length ≤ 20
            · first
                | (exfalso; omega)
                | (have hp20I : (p.length : Int) ≤ 20 := by omega
                   go_wp2
                   go_ret
                   exact ⟨ret_bool (by rw [hfalse.out]), below_draws hal'.out n⟩)
            · have hp20I : ¬ (p.length : Int) ≤ 20 := by omega
              go_wp2
              go_ret
              exact ⟨ret_bool (by rw [hfalse.out]), below_draws hal'.out n⟩
        · obtain rfl : k = qs.length := by omega
          have hltI : ¬ (qs.length : Int) < (qs.length : Int) := by omega
          rw [List.take_length] at hat
          have hat' := Lib.hid hat
          clear hat
          have hr' := Lib.hid (few_all hP.out (fun _ => hat'.out))
          by_cases hq20 : qs.length ≤ 20
          · have hq20I : (qs.length : Int) ≤ 20 := by omega
            by_cases hp20 : p.length ≤ 20
            · first
                | (exfalso; omega)
                | (have hp20I : (p.length : Int) ≤ 20 := by omega
                   go_wp2
                   go_ret
                   exact ⟨ret_bool (by rw [hr'.out]; simp [hp20, hq20]), below_draws hal'.out n⟩)
            · have hp20I : ¬ (p.length : Int) ≤ 20 := by omega
              go_wp2
              go_ret
              exact ⟨ret_bool (by rw [hr'.out]; simp [hp20, hq20]), below_draws hal'.out n⟩
          · have hq20I : ¬ (qs.length : Int) ≤ 20 := by omega
            by_cases hp20 : p.length ≤ 20
            · first
                | (exfalso; omega)
                | (have hp20I : (p.length : Int) ≤ 20 := by omega
                   go_wp2
                   go_ret
                   exact ⟨ret_bool (by rw [hr'.out]; simp [hp20, hq20]), below_draws hal'.out n⟩)
            · have hp20I : ¬ (p.length : Int) ≤ 20 := by omega
              go_wp2
              go_ret
              exact ⟨ret_bool (by rw [hr'.out]; simp [hp20, hq20]), below_draws hal'.out n⟩
theorem num_any (z : Int) (w : World) : Calls Tryz.prog 10 #[.int .i64 z] w fun e w' => e = .returned (.int .i64 z) ∧ w' = w := by
  go_enter Tryz.func10, Tryz.ntmps10
  go_wp2
  go_ret
  exact ⟨rfl, rfl⟩
end Go.Proofs.YtcogdfgmmpfkkaaGreatDoor
