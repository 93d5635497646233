import Derived.Test.YtbmemkbfignlaaaGreatDoorPk41
namespace Go.Proofs.YtbmemkbfignlaaaGreatDoor
open Go.RowKit Go.Shelf
attribute [local go_sem] Oper.semAt_some

/-! ## Which targets are the same, of texts of whatever length -/
structure BigT (t : TgL) : Prop where
  parts : t.1.length ≤ 1000
  pairs : t.2.length ≤ 1000
  part : ∀ x ∈ t.1, x.length ≤ 281474976710656
  pair : ∀ q ∈ t.2, q.1.length ≤ 281474976710656 ∧ q.2.length ≤ 281474976710656
theorem pair_litsB (x : PairL) (h1 : x.1.length ≤ 281474976710656) (h2 : x.2.length ≤ 281474976710656) : Tryz.prog.keyLits 2 88 [.string ⟨x.1.toArray⟩, .string ⟨x.2.toArray⟩] = some [.string x.1, .string x.2] := by
  have k1 : Tryz.prog.cellsOf 9 = 1 := by kernel_rfl
  have k2 : Tryz.prog.cellsOf 88 = 2 := by kernel_rfl
  have z : ∀ a : List UInt8, a.length ≤ 281474976710656 → (⟨a.toArray⟩ : ByteArray).size ≤ maxLen := fun a ha => by
    show a.toArray.size ≤ _
    simp [maxLen]; omega
  have z1 := z _ h1
  have z2 := z _ h2
  simp [Program.keyLits, Tryz.underlying88, Tryz.underlying9, k1, k2, z1, z2]
theorem pair_equalB (x y : PairL) (hx : x.1.length ≤ 281474976710656 ∧ x.2.length ≤ 281474976710656) (hy : y.1.length ≤ 281474976710656 ∧ y.2.length ≤ 281474976710656) (w : World) :
    (Op.equalIn 10000 88 (.agg #[.string ⟨x.1.toArray⟩, .string ⟨x.2.toArray⟩]) (.agg #[.string ⟨y.1.toArray⟩, .string ⟨y.2.toArray⟩])).run Tryz.prog w = .ok (decide (x = y)) w := by
  obtain ⟨r, hr, hiff⟩ := run_equalIn_deep (P := Tryz.prog) 9998 2 88 (by kernel_rfl) w 2 2 (.agg #[.string ⟨x.1.toArray⟩, .string ⟨x.2.toArray⟩]) (.agg #[.string ⟨y.1.toArray⟩, .string ⟨y.2.toArray⟩]) _ _ (by kernel_rfl) (by kernel_rfl) (pair_litsB x hx.1 hx.2) (pair_litsB y hy.1 hy.2)
  rw [hr]
  have : r = decide (x = y) := by
    obtain ⟨a, b⟩ := x
    obtain ⟨a', b'⟩ := y
    cases r with
    | true =>
      have := hiff.1 rfl
      simp at this
      obtain ⟨rfl, rfl⟩ := this
      simp
    | false =>
      refine (decide_eq_false (fun h => ?_)).symm
      have := hiff.2 (by rw [h])
      cases this
  rw [this]
set_option maxRecDepth 100000 in
set_option maxHeartbeats 8000000 in
theorem refSameB_any (A1 A2 B1 B2 : Option Addr) (c1 c2 d1 d2 : Nat) (t u : TgL) (w : World) (ht : BigT t) (hu : BigT u) (h1 : Txs w A1 t.1) (h2 : Prs w A2 t.2) (h3 : Txs w B1 u.1) (h4 : Prs w B2 u.2) :
    Calls Tryz.prog 29 #[.agg #[.slice A1 t.1.length c1, .slice A2 t.2.length c2], .agg #[.slice B1 u.1.length d1, .slice B2 u.2.length d2]] w (BoolR (decide (t = u)) w) := by
  unfold BoolR
  obtain ⟨p, qs⟩ := t
  obtain ⟨p', qs'⟩ := u
  obtain ⟨hp, hq, hpl, hql⟩ := ht
  obtain ⟨hp', hq', hpl', hql'⟩ := hu
  simp only at *
  have hka := (box_tg w A1 A2 p.length c1 qs.length c2).alloc (.cells #[.slice B1 p'.length d1, .slice B2 qs'.length d2] 32)
  have hkb := box_tg (w.alloc (.cells #[.slice A1 p.length c1, .slice A2 qs.length c2] 32)) B1 B2 p'.length d1 qs'.length d2
  rw [World.size_alloc] at hkb
  have hal := ((Below.refl w.heap.size w).alloc (Nat.le_refl _) (.cells #[.slice A1 p.length c1, .slice A2 qs.length c2] 32)).alloc (by simp) (.cells #[.slice B1 p'.length d1, .slice B2 qs'.length d2] 32)
  obtain ⟨w1, hw1⟩ : ∃ X, (w.alloc (.cells #[.slice A1 p.length c1, .slice A2 qs.length c2] 32)).alloc (.cells #[.slice B1 p'.length d1, .slice B2 qs'.length d2] 32) = X := ⟨_, rfl⟩
  rw [hw1] at hka hkb hal
  have hw1' := Lib.hid hw1
  have hal' := Lib.hid hal
  have hx1 := Lib.hid (h1.below hal)
  have hx2 := Lib.hid (h2.below hal)
  have hx3 := Lib.hid (h3.below hal)
  have hx4 := Lib.hid (h4.below hal)
  have a0 : ∀ m, (w1.drewN m).cell? ⟨w.heap.size, 0, none⟩ = some (.slice A1 p.length c1) := fun m => (hka.drewN m).cell 0
  have a1 : ∀ m, (w1.drewN m).cell? ⟨w.heap.size, 1, none⟩ = some (.slice A2 qs.length c2) := fun m => (hka.drewN m).cell 1
  have b0 : ∀ m, (w1.drewN m).cell? ⟨w.heap.size + 1, 0, none⟩ = some (.slice B1 p'.length d1) := fun m => (hkb.drewN m).cell 0
  have b1 : ∀ m, (w1.drewN m).cell? ⟨w.heap.size + 1, 1, none⟩ = some (.slice B2 qs'.length d2) := fun m => (hkb.drewN m).cell 1
  have x0 : w1.cell? ⟨w.heap.size, 0, none⟩ = some (.slice A1 p.length c1) := a0 0
  have x1 : w1.cell? ⟨w.heap.size, 1, none⟩ = some (.slice A2 qs.length c2) := a1 0
  have y0 : w1.cell? ⟨w.heap.size + 1, 0, none⟩ = some (.slice B1 p'.length d1) := b0 0
  have y1 : w1.cell? ⟨w.heap.size + 1, 1, none⟩ = some (.slice B2 qs'.length d2) := b1 0
  have hql1 := Lib.hid hql
  have hql2 := Lib.hid hql'
  clear hw1 hka hkb hal h1 h2 h3 h4 hpl hpl' hql hql'
  by_cases hn1 : p.length = p'.length
  · by_cases hn2 : qs.length = qs'.length
    · have e1 : ((p.length : Int) == (p'.length : Int)) = true := by rw [beq_iff_eq]; omega
      have e2 : ((qs.length : Int) == (qs'.length : Int)) = true := by rw [beq_iff_eq]; omega
      have hn1I : (p.length : Int) = (p'.length : Int) := by omega
      have hn2I : (qs.length : Int) = (qs'.length : Int) := by omega
      have hn1' := Lib.hid hn1
      have hn2' := Lib.hid hn2
      clear hn1 hn2
      go_enter Tryz.func29, Tryz.ntmps29
      go_upto_region 1 with (fail)
      rw [hw1'.out]
      go_wp2
      clear x0 x1 y0 y1 hn1I hn2I e1 e2
      go_loopw [5] (fun x W => ∃ k : Nat, k ≤ p.length ∧ x = .int .i64 (k : Int) ∧ p.take k = p'.take k ∧ ∃ q, W = w1.drewN q) (fun x _ => p.length - (intOf x).toNat)
      case atStart => exact ⟨0, Nat.zero_le _, rfl, by simp, 0, rfl⟩
      case round =>
        obtain ⟨k, hk, rfl, htk, n, rfl⟩ := hrel
        have htk' := Lib.hid htk
        clear htk
        by_cases hlt : k < p.length
        · have hltI : (k : Int) < (p.length : Int) := by omega
          have hlt' : k < p'.length := by have := hn1'.out; omega
          have hltI' : (k : Int) < (p'.length : Int) := by omega
          obtain ⟨b, o, hA, _, hc⟩ := hx1.out (by omega)
          subst hA
          obtain ⟨b', o', hA, _, hc'⟩ := hx3.out (by omega)
          subst hA
          have m1 : ∀ m, (w1.drewN m).cell? ⟨b, o + k, none⟩ = some (.string ⟨p[k].toArray⟩) := fun m => hc k _ (List.getElem?_eq_getElem hlt)
          have m2 : ∀ m, (w1.drewN m).cell? ⟨b', o' + k, none⟩ = some (.string ⟨p'[k].toArray⟩) := fun m => hc' k _ (List.getElem?_eq_getElem hlt')
          have hbk := Lib.hid (fun h : p[k] = p'[k] => take_both htk'.out hlt hlt' h)
          have hne := Lib.hid (fun (h : ¬ p[k] = p'[k]) (e : (p, qs) = (p', qs')) => h (by injection e with e1 e2; subst e1; rfl))
          clear hc hc'
          generalize p[k] = s1 at *
          generalize p'[k] = s2 at *
          by_cases he : s1 = s2
          · have he1 : (s1 == s2) = true := beq_iff_eq.2 he
            have hb := Lib.hid (hbk.out he)
            clear hbk hne he
            go_wp2
            go_quiet (fail)
            go_wp2
            exact ⟨⟨k + 1, by omega, by go_num, hb.out, _, rfl⟩, by simp [intOf]; omega⟩
          · have he1 : (s1 == s2) = false := beq_eq_false_iff_ne.2 he
            have hb := Lib.hid (hne.out he)
            clear hbk hne he
            go_wp2
            go_quiet (fail)
            go_wp2
            go_ret
            exact ⟨ret_bool (decide_eq_false hb.out).symm, below_draws (below_draws hal'.out n) _⟩
        · obtain rfl : k = p.length := by omega
          have hpp := Lib.hid (show p = p' by have h := htk'.out; rwa [List.take_length, List.take_of_length_le (by have := hn1'.out; omega)] at h)
          clear htk' hx1 hx3
          go_wp2
          go_loopw [6] (fun x W => ∃ k : Nat, k ≤ qs.length ∧ x = .int .i64 (k : Int) ∧ qs.take k = qs'.take k ∧ ∃ q, W = w1.drewN q) (fun x _ => qs.length - (intOf x).toNat)
          case atStart => exact ⟨0, Nat.zero_le _, rfl, by simp, n, rfl⟩
          case round =>
            obtain ⟨k, hk, rfl, htk, n, rfl⟩ := hrel
            have htk' := Lib.hid htk
            clear htk
            by_cases hlt : k < qs.length
            · have hltI : (k : Int) < (qs.length : Int) := by omega
              have hlt' : k < qs'.length := by have := hn2'.out; omega
              have hltI' : (k : Int) < (qs'.length : Int) := by omega
              obtain ⟨b, o, hA, _, hc⟩ := hx2.out (by omega)
              subst hA
              obtain ⟨b', o', hA, _, hc'⟩ := hx4.out (by omega)
              subst hA
              obtain ⟨j1, j2⟩ := hc k _ (List.getElem?_eq_getElem hlt)
              obtain ⟨j3, j4⟩ := hc' k _ (List.getElem?_eq_getElem hlt')
              have m1 : ∀ m, (w1.drewN m).cell? ⟨b, o + k * 2, none⟩ = some (.string ⟨qs[k].1.toArray⟩) := fun m => j1
              have m2 : ∀ m, (w1.drewN m).cell? ⟨b, o + k * 2 + 1, none⟩ = some (.string ⟨qs[k].2.toArray⟩) := fun m => j2
              have m3 : ∀ m, (w1.drewN m).cell? ⟨b', o' + k * 2, none⟩ = some (.string ⟨qs'[k].1.toArray⟩) := fun m => j3
              have m4 : ∀ m, (w1.drewN m).cell? ⟨b', o' + k * 2 + 1, none⟩ = some (.string ⟨qs'[k].2.toArray⟩) := fun m => j4
              have hbk := Lib.hid (fun h : qs[k] = qs'[k] => take_both htk'.out hlt hlt' h)
              have hne := Lib.hid (fun (h : ¬ qs[k] = qs'[k]) (e : (p, qs) = (p', qs')) => h (by injection e with e1 e2; subst e2; rfl))
              have hs1 := hql1.out _ (List.getElem_mem hlt)
              have hs2 := hql2.out _ (List.getElem_mem hlt')
              clear hc hc' j1 j2 j3 j4
              generalize qs[k] = s1 at *
              generalize qs'[k] = s2 at *
              have heq := fun W => pair_equalB s1 s2 ⟨by omega, by omega⟩ ⟨by omega, by omega⟩ W
              by_cases he : s1 = s2
              · rw [decide_eq_true he] at heq
                have hb := Lib.hid (hbk.out he)
                clear hbk hne he
                go_wp2
                go_quiet (fail)
                go_wp2
                exact ⟨⟨k + 1, by omega, by go_num, hb.out, _, rfl⟩, by simp [intOf]; omega⟩
              · rw [decide_eq_false he] at heq
                have hb := Lib.hid (hne.out he)
                clear hbk hne he
                go_wp2
                go_quiet (fail)
                go_wp2
                go_ret
                exact ⟨ret_bool (decide_eq_false hb.out).symm, below_draws (below_draws hal'.out n) _⟩
            · obtain rfl : k = qs.length := by omega
              have hqq := Lib.hid (show qs = qs' by have h := htk'.out; rwa [List.take_length, List.take_of_length_le (by have := hn2'.out; omega)] at h)
              clear htk' hx2 hx4
              go_wp2
              go_ret
              exact ⟨ret_bool (decide_eq_true (by rw [hpp.out, hqq.out])).symm, below_draws hal'.out _⟩
    · have e1 : ((p.length : Int) == (p'.length : Int)) = true := by rw [beq_iff_eq]; omega
      have e2 : ((qs.length : Int) == (qs'.length : Int)) = false := by rw [beq_eq_false_iff_ne]; omega
      have hn1I : (p.length : Int) = (p'.length : Int) := by omega
      have hn2I : ¬ (qs.length : Int) = (qs'.length : Int) := by omega
      have hd := Lib.hid (show decide ((p, qs) = (p', qs')) = false from decide_eq_false (fun e => hn2 (by injection e with _ e; rw [e])))
      clear hn1 hn2
      rw [hd.out]
      go_enter Tryz.func29, Tryz.ntmps29
      go_upto_region 1 with (fail)
      rw [hw1'.out]
      go_wp2
      go_ret
      exact ⟨rfl, hal'.out⟩
  · have e1 : ((p.length : Int) == (p'.length : Int)) = false := by rw [beq_eq_false_iff_ne]; omega
    have hn1I : ¬ (p.length : Int) = (p'.length : Int) := by omega
    have hd := Lib.hid (show decide ((p, qs) = (p', qs')) = false from decide_eq_false (fun e => hn1 (by injection e with e _; rw [e])))
    clear hn1
    rw [hd.out]
    go_enter Tryz.func29, Tryz.ntmps29
    go_upto_region 1 with (fail)
    rw [hw1'.out]
    go_wp2
    go_ret
    exact ⟨rfl, hal'.out⟩
set_option maxRecDepth 100000 in
set_option maxHeartbeats 4000000 in
theorem equalPrB_any (A B : Option Addr) (c d : Nat) (p q : List PairL) (w : World) (hp : Prs w A p) (hq : Prs w B q) (hl : p.length ≤ 900000) (hl' : q.length ≤ 900000) (hpl : ∀ x ∈ p, x.1.length ≤ 281474976710656 ∧ x.2.length ≤ 281474976710656) (hql : ∀ x ∈ q, x.1.length ≤ 281474976710656 ∧ x.2.length ≤ 281474976710656) :
    Calls Tryz.prog 52 #[.slice A p.length c, .slice B q.length d] w (BoolR (decide (p = q)) w) := by
  unfold BoolR
  by_cases hn : p.length = q.length
  · have hnI : (p.length : Int) = (q.length : Int) := by omega
    have hnE : ((p.length : Int) != (q.length : Int)) = false := by rw [hnI]; simp
    have hn' := Lib.hid hn
    have hp' := Lib.hid hp
    have hq' := Lib.hid hq
    have hpl' := Lib.hid hpl
    have hql' := Lib.hid hql
    clear hn hp hq hpl hql
    go_enter Tryz.func52, Tryz.ntmps52
    go_wp2
    go_loopw [5, 13] (fun _ x W => ∃ k : Nat, k ≤ p.length ∧ x = .int .i64 (k : Int) ∧ p.take k = q.take k ∧ ∃ n, W = w.drewN n) (fun _ x _ => p.length - (intOf x).toNat)
    case atStart => exact ⟨0, Nat.zero_le _, rfl, by simp, 0, rfl⟩
    case round =>
      obtain ⟨k, hk, rfl, htk, n, rfl⟩ := hrel
      have htk' := Lib.hid htk
      clear htk
      by_cases hlt : k < p.length
      · have hltI : (k : Int) < (p.length : Int) := by omega
        have hlt' : k < q.length := by have := hn'.out; omega
        have hltI' : (k : Int) < (q.length : Int) := by omega
        obtain ⟨b, o, hA, _, hc⟩ := hp'.out (by omega)
        subst hA
        obtain ⟨b', o', hA, _, hc'⟩ := hq'.out (by omega)
        subst hA
        obtain ⟨j1, j2⟩ := hc k _ (List.getElem?_eq_getElem hlt)
        obtain ⟨j3, j4⟩ := hc' k _ (List.getElem?_eq_getElem hlt')
        have m1 : ∀ m, (w.drewN m).cell? ⟨b, o + k * 2, none⟩ = some (.string ⟨p[k].1.toArray⟩) := fun m => j1
        have m2 : ∀ m, (w.drewN m).cell? ⟨b, o + k * 2 + 1, none⟩ = some (.string ⟨p[k].2.toArray⟩) := fun m => j2
        have m3 : ∀ m, (w.drewN m).cell? ⟨b', o' + k * 2, none⟩ = some (.string ⟨q[k].1.toArray⟩) := fun m => j3
        have m4 : ∀ m, (w.drewN m).cell? ⟨b', o' + k * 2 + 1, none⟩ = some (.string ⟨q[k].2.toArray⟩) := fun m => j4
        have hx1 := hpl'.out _ (List.getElem_mem hlt)
        have hx2 := hql'.out _ (List.getElem_mem hlt')
        have hbk := Lib.hid (fun h : p[k] = q[k] => take_both htk'.out hlt hlt' h)
        have hne := Lib.hid (fun (h : ¬ p[k] = q[k]) (e : p = q) => h (by subst e; rfl))
        clear hc hc' j1 j2 j3 j4
        generalize p[k] = s1 at *
        generalize q[k] = s2 at *
        have heq := fun W => pair_equalB s1 s2 ⟨by omega, by omega⟩ ⟨by omega, by omega⟩ W
        by_cases he : s1 = s2
        · rw [decide_eq_true he] at heq
          have hb := Lib.hid (hbk.out he)
          clear hbk hne he
          go_wp2
          go_quiet (fail)
          go_wp2
          exact ⟨⟨k + 1, by omega, by go_num, hb.out, _, rfl⟩, by simp [intOf]; omega⟩
        · rw [decide_eq_false he] at heq
          have hb := Lib.hid (hne.out he)
          clear hbk hne he
          go_wp2
          go_quiet (fail)
          go_wp2
          go_ret
          exact ⟨ret_bool (decide_eq_false hb.out).symm, below_draws (below_draws (Below.refl _ _) n) _⟩
      · obtain rfl : k = p.length := by omega
        have hpp := Lib.hid (show p = q by have h := htk'.out; rwa [List.take_length, List.take_of_length_le (by have := hn'.out; omega)] at h)
        go_wp2
        go_ret
        exact ⟨ret_bool (decide_eq_true hpp.out).symm, below_draws (Below.refl _ _) n⟩
  · have hnE : ((p.length : Int) != (q.length : Int)) = true := by rw [bne_iff_ne]; omega
    have e : decide (p = q) = false := decide_eq_false (fun e => hn (by rw [e]))
    rw [e]
    clear hp hq hn e
    go_enter Tryz.func52, Tryz.ntmps52
    go_wp2
    go_ret
    exact ⟨rfl, Below.refl _ _⟩
set_option maxRecDepth 100000 in
set_option maxHeartbeats 4000000 in
theorem sameTB_any (A1 A2 B1 B2 : Option Addr) (c1 c2 d1 d2 : Nat) (t u : TgL) (w : World) (ht : BigT t) (hu : BigT u) (h1 : Txs w A1 t.1) (h2 : Prs w A2 t.2) (h3 : Txs w B1 u.1) (h4 : Prs w B2 u.2) :
    Calls Tryz.prog 30 #[.agg #[.slice A1 t.1.length c1, .slice A2 t.2.length c2], .agg #[.slice B1 u.1.length d1, .slice B2 u.2.length d2]] w (BoolR (decide (t = u)) w) := by
  unfold BoolR
  have hka := (box_tg w A1 A2 t.1.length c1 t.2.length c2).alloc (.cells #[.slice B1 u.1.length d1, .slice B2 u.2.length d2] 32)
  have hkb := box_tg (w.alloc (.cells #[.slice A1 t.1.length c1, .slice A2 t.2.length c2] 32)) B1 B2 u.1.length d1 u.2.length d2
  rw [World.size_alloc] at hkb
  have hal := ((Below.refl w.heap.size w).alloc (Nat.le_refl _) (.cells #[.slice A1 t.1.length c1, .slice A2 t.2.length c2] 32)).alloc (by simp) (.cells #[.slice B1 u.1.length d1, .slice B2 u.2.length d2] 32)
  obtain ⟨w1, hw1⟩ : ∃ X, (w.alloc (.cells #[.slice A1 t.1.length c1, .slice A2 t.2.length c2] 32)).alloc (.cells #[.slice B1 u.1.length d1, .slice B2 u.2.length d2] 32) = X := ⟨_, rfl⟩
  rw [hw1] at hka hkb hal
  have hal' := Lib.hid hal
  have hka' := Lib.hid hka
  have hkb' := Lib.hid hkb
  have a0 := hka.cell 0
  have b0 := hkb.cell 0
  have he1 := Lib.hid (equalTx_any A1 B1 c1 d1 t.1 u.1 w1 (h1.below hal) (h3.below hal) (by have := ht.parts; omega) (by have := hu.parts; omega))
  have he2 := Lib.hid (fun W (hW : Below w.heap.size w W) => equalPrB_any A2 B2 c2 d2 t.2 u.2 W (h2.below hW) (h4.below hW) (by have := ht.pairs; omega) (by have := hu.pairs; omega) ht.pair hu.pair)
  have hd : decide (t = u) = (decide (t.1 = u.1) && decide (t.2 = u.2)) := by
    obtain ⟨p, q⟩ := t
    obtain ⟨p', q'⟩ := u
    simp
  unfold BoolR at he1 he2
  rw [hd]
  generalize decide (t.1 = u.1) = r1 at *
  generalize decide (t.2 = u.2) = r2 at *
  clear hal hka hkb hd h1 h2 h3 h4
  cases r1
  · go_enter Tryz.func30, Tryz.ntmps30
    go_wp2_with (go_at_call 51; (with_reducible refine Calls.mono he1.out ?_); rintro e w2 ⟨rfl, hb2⟩; have hb2' := Lib.hid hb2; clear hb2)
    go_ret
    exact ⟨rfl, hal'.out.trans (hb2'.out.mono hal'.out.size)⟩
  · go_enter Tryz.func30, Tryz.ntmps30
    go_wp2_with (first
      | (go_at_call 51; (with_reducible refine Calls.mono he1.out ?_); rintro e w2 ⟨rfl, hb2⟩; have x1 := (hka'.out.below hb2 hka'.out.lt).cell 1; have y1 := (hkb'.out.below hb2 hkb'.out.lt).cell 1; have hb2' := Lib.hid (hal'.out.trans (hb2.mono hal'.out.size)); clear hb2)
      | (go_at_call 52; (with_reducible refine Calls.mono (he2.out _ hb2'.out) ?_); rintro e w3 ⟨rfl, hb3⟩; have hb3' := Lib.hid hb3; clear hb3))
    go_ret
    exact ⟨rfl, hb2'.out.trans (hb3'.out.mono hb2'.out.size)⟩
end Go.Proofs.YtbmemkbfignlaaaGreatDoor
