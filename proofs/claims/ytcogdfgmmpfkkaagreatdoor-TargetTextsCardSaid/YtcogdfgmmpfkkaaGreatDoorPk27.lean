import Derived.Test.YtcogdfgmmpfkkaaGreatDoorPk26
import Derived.DeepKeys
import Derived.Laws.StructEq
namespace Go.Proofs.YtcogdfgmmpfkkaaGreatDoor
open Go.RowKit
attribute [local go_sem] Oper.semAt_some

/-! ## The document's Same -/
theorem pair_lits (x : PairL) (h1 : x.1.length ≤ 1000000) (h2 : x.2.length ≤ 1000000) : Tryz.prog.keyLits 2 46 [.string ⟨x.1.toArray⟩, .string ⟨x.2.toArray⟩] = some [.string x.1, .string x.2] := by
  have k1 : Tryz.prog.cellsOf 9 = 1 := by kernel_rfl
  have k2 : Tryz.prog.cellsOf 46 = 2 := by kernel_rfl
  have z : ∀ a : List UInt8, a.length ≤ 1000000 → (⟨a.toArray⟩ : ByteArray).size ≤ maxLen := fun a ha => by
    show a.toArray.size ≤ _
    simp [maxLen]; omega
  have z1 := z _ h1
  have z2 := z _ h2
  simp [Program.keyLits, Tryz.underlying46, Tryz.underlying9, k1, k2, z1, z2]
theorem pair_equal (x y : PairL) (hx : x.1.length ≤ 1000000 ∧ x.2.length ≤ 1000000) (hy : y.1.length ≤ 1000000 ∧ y.2.length ≤ 1000000) (w : World) :
    (Op.equalIn 10000 46 (.agg #[.string ⟨x.1.toArray⟩, .string ⟨x.2.toArray⟩]) (.agg #[.string ⟨y.1.toArray⟩, .string ⟨y.2.toArray⟩])).run Tryz.prog w = .ok (decide (x = y)) w := by
  obtain ⟨r, hr, hiff⟩ := run_equalIn_deep (P := Tryz.prog) 9998 2 46 (by kernel_rfl) w 2 2 (.agg #[.string ⟨x.1.toArray⟩, .string ⟨x.2.toArray⟩]) (.agg #[.string ⟨y.1.toArray⟩, .string ⟨y.2.toArray⟩]) _ _ (by kernel_rfl) (by kernel_rfl) (pair_lits x hx.1 hx.2) (pair_lits y hy.1 hy.2)
  rw [hr]
  have : r = decide (x = y) := by
    obtain ⟨a, b⟩ := x
    obtain ⟨a', b'⟩ := y
    cases r with
    | true =>
      have := hiff.1 rfl
      simp at this
      obtain ⟨rfl, rfl⟩ := this
      simp
    | false =>
      refine (decide_eq_false (fun h => ?_)).symm
      have := hiff.2 (by rw [h])
      cases this
  rw [this]
theorem take_both {α : Type} {a b : List α} {k : Nat} (h : a.take k = b.take k) (ha : k < a.length) (hb : k < b.length) (he : a[k] = b[k]) : a.take (k + 1) = b.take (k + 1) := by rw [take_next a ha, take_next b hb, h, he]
set_option maxRecDepth 100000 in
set_option maxHeartbeats 8000000 in
theorem refSame_any (A1 A2 B1 B2 : Option Addr) (c1 c2 d1 d2 : Nat) (t u : TgL) (w : World) (ht : FewT t) (hu : FewT u) (h1 : Txs w A1 t.1) (h2 : Prs w A2 t.2) (h3 : Txs w B1 u.1) (h4 : Prs w B2 u.2) :
    Calls Tryz.prog 9 #[.agg #[.slice A1 t.1.length c1, .slice A2 t.2.length c2], .agg #[.slice B1 u.1.length d1, .slice B2 u.2.length d2]] w (BoolR (decide (t = u)) w) := by
  unfold BoolR
  obtain ⟨p, qs⟩ := t
  obtain ⟨p', qs'⟩ := u
  obtain ⟨hp, hq, hpl, hql⟩ := ht
  obtain ⟨hp', hq', hpl', hql'⟩ := hu
  simp only at *
  have hka := (box_tg w A1 A2 p.length c1 qs.length c2).alloc (.cells #[.slice B1 p'.length d1, .slice B2 qs'.length d2] 26)
  have hkb := box_tg (w.alloc (.cells #[.slice A1 p.length c1, .slice A2 qs.length c2] 26)) B1 B2 p'.length d1 qs'.length d2
  rw [World.size_alloc] at hkb
  have hal := ((Below.refl w.heap.size w).alloc (Nat.le_refl _) (.cells #[.slice A1 p.length c1, .slice A2 qs.length c2] 26)).alloc (by simp) (.cells #[.slice B1 p'.length d1, .slice B2 qs'.length d2] 26)
  obtain ⟨w1, hw1⟩ : ∃ X, (w.alloc (.cells #[.slice A1 p.length c1, .slice A2 qs.length c2] 26)).alloc (.cells #[.slice B1 p'.length d1, .slice B2 qs'.length d2] 26) = X := ⟨_, rfl⟩
  rw [hw1] at hka hkb hal
  have hw1' := Lib.hid hw1
  have hal' := Lib.hid hal
  have hx1 := Lib.hid (h1.below hal)
  have hx2 := Lib.hid (h2.below hal)
  have hx3 := Lib.hid (h3.below hal)
  have hx4 := Lib.hid (h4.below hal)
  have a0 : ∀ m, (w1.drewN m).cell? ⟨w.heap.size, 0, none⟩ = some (.slice A1 p.length c1) := fun m => (hka.drewN m).cell 0
  have a1 : ∀ m, (w1.drewN m).cell? ⟨w.heap.size, 1, none⟩ = some (.slice A2 qs.length c2) := fun m => (hka.drewN m).cell 1
  have b0 : ∀ m, (w1.drewN m).cell? ⟨w.heap.size + 1, 0, none⟩ = some (.slice B1 p'.length d1) := fun m => (hkb.drewN m).cell 0
  have b1 : ∀ m, (w1.drewN m).cell? ⟨w.heap.size + 1, 1, none⟩ = some (.slice B2 qs'.length d2) := fun m => (hkb.drewN m).cell 1
  have x0 : w1.cell? ⟨w.heap.size, 0, none⟩ = some (.slice A1 p.length c1) := a0 0
  have x1 : w1.cell? ⟨w.heap.size, 1, none⟩ = some (.slice A2 qs.length c2) := a1 0
  have y0 : w1.cell? ⟨w.heap.size + 1, 0, none⟩ = some (.slice B1 p'.length d1) := b0 0
  have y1 : w1.cell? ⟨w.heap.size + 1, 1, none⟩ = some (.slice B2 qs'.length d2) := b1 0
  have hql1 := Lib.hid hql
  have hql2 := Lib.hid hql'
  clear hw1 hka hkb hal h1 h2 h3 h4 hpl hpl' hql hql'
  by_cases hn1 : p.length = p'.length
  · by_cases hn2 : qs.length = qs'.length
    · have e1 : ((p.length : Int) == (p'.length : Int)) = true := by rw [beq_iff_eq]; omega
      have e2 : ((qs.length : Int) == (qs'.length : Int)) = true := by rw [beq_iff_eq]; omega
      have hn1I : (p.length : Int) = (p'.length : Int) := by omega
      have hn2I : (qs.length : Int) = (qs'.length : Int) := by omega
      have hn1' := Lib.hid hn1
      have hn2' := Lib.hid hn2
      clear hn1 hn2
      go_enter Tryz.func9, Tryz.ntmps9
      go_upto_region 1 with (fail)
      rw [hw1'.out]
      go_wp2
      clear x0 x1 y0 y1 hn1I hn2I e1 e2
      go_loopw [5] (fun x W => ∃ k : Nat, k ≤ p.length ∧ x = .int .i64 (k : Int) ∧ p.take k = p'.take k ∧ ∃ q, W = w1.drewN q) (fun x _ => p.length - (intOf x).toNat)
      case atStart => exact ⟨0, Nat.zero_le _, rfl, by simp, 0, rfl⟩
      case round =>
        obtain ⟨k, hk, rfl, htk, n, rfl⟩ := hrel
        have htk' := Lib.hid htk
        clear htk
        by_cases hlt : k < p.length
        · have hltI : (k : Int) < (p.length : Int) := by omega
          have hlt' : k < p'.length := by have := hn1'.out; omega
          have hltI' : (k : Int) < (p'.length : Int) := by omega
          obtain ⟨b, o, hA, _, hc⟩ := hx1.out (by omega)
          subst hA
          obtain ⟨b', o', hA, _, hc'⟩ := hx3.out (by omega)
          subst hA
          have m1 : ∀ m, (w1.drewN m).cell? ⟨b, o + k, none⟩ = some (.string ⟨p[k].toArray⟩) := fun m => hc k _ (List.getElem?_eq_getElem hlt)
          have m2 : ∀ m, (w1.drewN m).cell? ⟨b', o' + k, none⟩ = some (.string ⟨p'[k].toArray⟩) := fun m => hc' k _ (List.getElem?_eq_getElem hlt')
          have hbk := Lib.hid (fun h : p[k] = p'[k] => take_both htk'.out hlt hlt' h)
          have hne := Lib.hid (fun (h : ¬ p[k] = p'[k]) (e : (p, qs) = (p', qs')) => h (by injection e with e1 e2; subst e1; rfl))
          clear hc hc'
          generalize p[k] = s1 at *
          generalize p'[k] = s2 at *
          by_cases he : s1 = s2
          · have he1 : (s1 == s2) = true := beq_iff_eq.2 he
            have hb := Lib.hid (hbk.out he)
            clear hbk hne he
            go_wp2
            go_quiet (fail)
            go_wp2
            exact ⟨⟨k + 1, by omega, by go_num, hb.out, _, rfl⟩, by simp [intOf]; omega⟩
          · have he1 : (s1 == s2) = false := beq_eq_false_iff_ne.2 he
            have hb := Lib.hid (hne.out he)
            clear hbk hne he
            go_wp2
            go_quiet (fail)
            go_wp2
            go_ret
            exact ⟨ret_bool (decide_eq_false hb.out).symm, below_draws (below_draws hal'.out n) _⟩
        · obtain rfl : k = p.length := by omega
          have hpp := Lib.hid (show p = p' by have h := htk'.out; rwa [List.take_length, List.take_of_length_le (by have := hn1'.out; omega)] at h)
          clear htk' hx1 hx3
          go_wp2
          go_loopw [6] (fun x W => ∃ k : Nat, k ≤ qs.length ∧ x = .int .i64 (k : Int) ∧ qs.take k = qs'.take k ∧ ∃ q, W = w1.drewN q) (fun x _ => qs.length - (intOf x).toNat)
          case atStart => exact ⟨0, Nat.zero_le _, rfl, by simp, n, rfl⟩
          case round =>
            obtain ⟨k, hk, rfl, htk, n, rfl⟩ := hrel
            have htk' := Lib.hid htk
            clear htk
            by_cases hlt : k < qs.length
            · have hltI : (k : Int) < (qs.length : Int) := by omega
              have hlt' : k < qs'.length := by have := hn2'.out; omega
              have hltI' : (k : Int) < (qs'.length : Int) := by omega
              obtain ⟨b, o, hA, _, hc⟩ := hx2.out (by omega)
              subst hA
              obtain ⟨b', o', hA, _, hc'⟩ := hx4.out (by omega)
              subst hA
              obtain ⟨j1, j2⟩ := hc k _ (List.getElem?_eq_getElem hlt)
              obtain ⟨j3, j4⟩ := hc' k _ (List.getElem?_eq_getElem hlt')
              have m1 : ∀ m, (w1.drewN m).cell? ⟨b, o + k * 2, none⟩ = some (.string ⟨qs[k].1.toArray⟩) := fun m => j1
              have m2 : ∀ m, (w1.drewN m).cell? ⟨b, o + k * 2 + 1, none⟩ = some (.string ⟨qs[k].2.toArray⟩) := fun m => j2
              have m3 : ∀ m, (w1.drewN m).cell? ⟨b', o' + k * 2, none⟩ = some (.string ⟨qs'[k].1.toArray⟩) := fun m => j3
              have m4 : ∀ m, (w1.drewN m).cell? ⟨b', o' + k * 2 + 1, none⟩ = some (.string ⟨qs'[k].2.toArray⟩) := fun m => j4
              have hbk := Lib.hid (fun h : qs[k] = qs'[k] => take_both htk'.out hlt hlt' h)
              have hne := Lib.hid (fun (h : ¬ qs[k] = qs'[k]) (e : (p, qs) = (p', qs')) => h (by injection e with e1 e2; subst e2; rfl))
              have hs1 := hql1.out _ (List.getElem_mem hlt)
              have hs2 := hql2.out _ (List.getElem_mem hlt')
              clear hc hc' j1 j2 j3 j4
              generalize qs[k] = s1 at *
              generalize qs'[k] = s2 at *
              have heq := fun W => pair_equal s1 s2 ⟨by omega, by omega⟩ ⟨by omega, by omega⟩ W
              by_cases he : s1 = s2
              · rw [decide_eq_true he] at heq
                have hb := Lib.hid (hbk.out he)
                clear hbk hne he
                go_wp2
                go_quiet (fail)
                go_wp2
                exact ⟨⟨k + 1, by omega, by go_num, hb.out, _, rfl⟩, by simp [intOf]; omega⟩
              · rw [decide_eq_false he] at heq
                have hb := Lib.hid (hne.out he)
                clear hbk hne he
                go_wp2
                go_quiet (fail)
                go_wp2
                go_ret
                exact ⟨ret_bool (decide_eq_false hb.out).symm, below_draws (below_draws hal'.out n) _⟩
            · obtain rfl : k = qs.length := by omega
              have hqq := Lib.hid (show qs = qs' by have h := htk'.out; rwa [List.take_length, List.take_of_length_le (by have := hn2'.out; omega)] at h)
              clear htk' hx2 hx4
              go_wp2
              go_ret
              exact ⟨ret_bool (decide_eq_true (by rw [hpp.out, hqq.out])).symm, below_draws hal'.out _⟩
    · have e1 : ((p.length : Int) == (p'.length : Int)) = true := by rw [beq_iff_eq]; omega
      have e2 : ((qs.length : Int) == (qs'.length : Int)) = false := by rw [beq_eq_false_iff_ne]; omega
      have hn1I : (p.length : Int) = (p'.length : Int) := by omega
      have hn2I : ¬ (qs.length : Int) = (qs'.length : Int) := by omega
      have hd := Lib.hid (show decide ((p, qs) = (p', qs')) = false from decide_eq_false (fun e => hn2 (by injection e with _ e; rw [e])))
      clear hn1 hn2
      rw [hd.out]
      go_enter Tryz.func9, Tryz.ntmps9
      go_upto_region 1 with (fail)
      rw [hw1'.out]
      go_wp2
      go_ret
      exact ⟨rfl, hal'.out⟩
  · have e1 : ((p.length : Int) == (p'.length : Int)) = false := by rw [beq_eq_false_iff_ne]; omega
    have hn1I : ¬ (p.length : Int) = (p'.length : Int) := by omega
    have hd := Lib.hid (show decide ((p, qs) = (p', qs')) = false from decide_eq_false (fun e => hn1 (by injection e with e _; rw [e])))
    clear hn1
    rw [hd.out]
    go_enter Tryz.func9, Tryz.ntmps9
    go_upto_region 1 with (fail)
    rw [hw1'.out]
    go_wp2
    go_ret
    exact ⟨rfl, hal'.out⟩
end Go.Proofs.YtcogdfgmmpfkkaaGreatDoor
