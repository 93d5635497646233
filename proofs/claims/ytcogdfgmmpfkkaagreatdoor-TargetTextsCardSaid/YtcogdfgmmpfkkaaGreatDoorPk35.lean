import Derived.Test.YtcogdfgmmpfkkaaGreatDoorPk34
import Derived.Test.YtcogdfgmmpfkkaaGreatDoorPk27
namespace Go.Proofs.YtcogdfgmmpfkkaaGreatDoor
open Go.RowKit Go.Shelf
attribute [local go_sem] Oper.semAt_some

/-! ## Same -/
theorem equalTx_any (A B : Option Addr) (c d : Nat) (p q : List (List UInt8)) (w : World) (hp : Txs w A p) (hq : Txs w B q) (hl : p.length ≤ 900000) (hl' : q.length ≤ 900000) :
    Calls Tryz.prog 41 #[.slice A p.length c, .slice B q.length d] w (BoolR (decide (p = q)) w) := by
  unfold BoolR
  by_cases hn : p.length = q.length
  · rcases Nat.eq_zero_or_pos p.length with h0 | h0
    · have e : decide (p = q) = decide (q.length = 0) := by
        rw [decide_eq_decide]
        have := List.length_eq_zero_iff.1 h0
        subst this
        constructor
        · intro e; rw [← e]; rfl
        · intro e; exact (List.length_eq_zero_iff.1 e).symm
      rw [e, h0]
      refine (Tryz.slices_Equal_string_empty A B c q.length d w (by omega)).mono ?_
      rintro e w' ⟨rfl, rfl⟩
      exact ⟨rfl, Below.refl _ _⟩
    · obtain ⟨b1, o1, rfl, _, hc1⟩ := hp h0
      obtain ⟨b2, o2, rfl, _, hc2⟩ := hq (by omega)
      have l1 : (p.map fun y => (⟨y.toArray⟩ : ByteArray)).length = p.length := by simp
      have l2 : (q.map fun y => (⟨y.toArray⟩ : ByteArray)).length = q.length := by simp
      refine (Tryz.slices_Equal_string b1 o1 p.length c b2 o2 q.length d (p.map fun y => ⟨y.toArray⟩) (q.map fun y => ⟨y.toArray⟩) w (by omega) (by omega) (by omega) (by omega) (fun j hj => ?_) (fun j hj => ?_)).mono ?_
      · rw [l1] at hj
        rw [hc1 j p[j] (List.getElem?_eq_getElem hj)]
        simp [List.getD_eq_getElem?_getD, List.getElem?_map, List.getElem?_eq_getElem hj]
      · rw [l2] at hj
        rw [hc2 j q[j] (List.getElem?_eq_getElem hj)]
        simp [List.getD_eq_getElem?_getD, List.getElem?_map, List.getElem?_eq_getElem hj]
      · rintro e w' ⟨rfl, n, rfl⟩
        refine ⟨?_, below_draws (Below.refl _ _) n⟩
        rw [List.take_of_length_le (by omega), List.take_of_length_le (by omega)]
        congr 2
        rw [decide_eq_decide]
        constructor
        · intro e
          have := congrArg (List.map fun b : ByteArray => b.data.toList) e
          simpa [List.map_map, Function.comp_def] using this
        · intro e; rw [e]
  · have e : decide (p = q) = false := decide_eq_false (fun e => hn (by rw [e]))
    rw [e]
    refine (Tryz.slices_Equal_string_lens A B p.length c q.length d w hn).mono ?_
    rintro e w' ⟨rfl, rfl⟩
    exact ⟨rfl, Below.refl _ _⟩
set_option maxRecDepth 100000 in
set_option maxHeartbeats 4000000 in
theorem equalPr_any (A B : Option Addr) (c d : Nat) (p q : List PairL) (w : World) (hp : Prs w A p) (hq : Prs w B q) (hl : p.length ≤ 900000) (hl' : q.length ≤ 900000) (hpl : ∀ x ∈ p, x.1.length ≤ 1000 ∧ x.2.length ≤ 1000) (hql : ∀ x ∈ q, x.1.length ≤ 1000 ∧ x.2.length ≤ 1000) :
    Calls Tryz.prog 42 #[.slice A p.length c, .slice B q.length d] w (BoolR (decide (p = q)) w) := by
  unfold BoolR
  by_cases hn : p.length = q.length
  · have hnI : (p.length : Int) = (q.length : Int) := by omega
    have hnE : ((p.length : Int) != (q.length : Int)) = false := by rw [hnI]; simp
    have hn' := Lib.hid hn
    have hp' := Lib.hid hp
    have hq' := Lib.hid hq
    have hpl' := Lib.hid hpl
    have hql' := Lib.hid hql
    clear hn hp hq hpl hql
    go_enter Tryz.func42, Tryz.ntmps42
    go_wp2
    go_loopw [5, 13] (fun _ x W => ∃ k : Nat, k ≤ p.length ∧ x = .int .i64 (k : Int) ∧ p.take k = q.take k ∧ ∃ n, W = w.drewN n) (fun _ x _ => p.length - (intOf x).toNat)
    case atStart => exact ⟨0, Nat.zero_le _, rfl, by simp, 0, rfl⟩
    case round =>
      obtain ⟨k, hk, rfl, htk, n, rfl⟩ := hrel
      have htk' := Lib.hid htk
      clear htk
      by_cases hlt : k < p.length
      · have hltI : (k : Int) < (p.length : Int) := by omega
        have hlt' : k < q.length := by have := hn'.out; omega
        have hltI' : (k : Int) < (q.length : Int) := by omega
        obtain ⟨b, o, hA, _, hc⟩ := hp'.out (by omega)
        subst hA
        obtain ⟨b', o', hA, _, hc'⟩ := hq'.out (by omega)
        subst hA
        obtain ⟨j1, j2⟩ := hc k _ (List.getElem?_eq_getElem hlt)
        obtain ⟨j3, j4⟩ := hc' k _ (List.getElem?_eq_getElem hlt')
        have m1 : ∀ m, (w.drewN m).cell? ⟨b, o + k * 2, none⟩ = some (.string ⟨p[k].1.toArray⟩) := fun m => j1
        have m2 : ∀ m, (w.drewN m).cell? ⟨b, o + k * 2 + 1, none⟩ = some (.string ⟨p[k].2.toArray⟩) := fun m => j2
        have m3 : ∀ m, (w.drewN m).cell? ⟨b', o' + k * 2, none⟩ = some (.string ⟨q[k].1.toArray⟩) := fun m => j3
        have m4 : ∀ m, (w.drewN m).cell? ⟨b', o' + k * 2 + 1, none⟩ = some (.string ⟨q[k].2.toArray⟩) := fun m => j4
        have hx1 := hpl'.out _ (List.getElem_mem hlt)
        have hx2 := hql'.out _ (List.getElem_mem hlt')
        have hbk := Lib.hid (fun h : p[k] = q[k] => take_both htk'.out hlt hlt' h)
        have hne := Lib.hid (fun (h : ¬ p[k] = q[k]) (e : p = q) => h (by subst e; rfl))
        clear hc hc' j1 j2 j3 j4
        generalize p[k] = s1 at *
        generalize q[k] = s2 at *
        have heq := fun W => pair_equal s1 s2 ⟨by omega, by omega⟩ ⟨by omega, by omega⟩ W
        by_cases he : s1 = s2
        · rw [decide_eq_true he] at heq
          have hb := Lib.hid (hbk.out he)
          clear hbk hne he
          go_wp2
          go_quiet (fail)
          go_wp2
          exact ⟨⟨k + 1, by omega, by go_num, hb.out, _, rfl⟩, by simp [intOf]; omega⟩
        · rw [decide_eq_false he] at heq
          have hb := Lib.hid (hne.out he)
          clear hbk hne he
          go_wp2
          go_quiet (fail)
          go_wp2
          go_ret
          exact ⟨ret_bool (decide_eq_false hb.out).symm, below_draws (below_draws (Below.refl _ _) n) _⟩
      · obtain rfl : k = p.length := by omega
        have hpp := Lib.hid (show p = q by have h := htk'.out; rwa [List.take_length, List.take_of_length_le (by have := hn'.out; omega)] at h)
        go_wp2
        go_ret
        exact ⟨ret_bool (decide_eq_true hpp.out).symm, below_draws (Below.refl _ _) n⟩
  · have hnE : ((p.length : Int) != (q.length : Int)) = true := by rw [bne_iff_ne]; omega
    have e : decide (p = q) = false := decide_eq_false (fun e => hn (by rw [e]))
    rw [e]
    clear hp hq hn e
    go_enter Tryz.func42, Tryz.ntmps42
    go_wp2
    go_ret
    exact ⟨rfl, Below.refl _ _⟩
set_option maxRecDepth 100000 in
set_option maxHeartbeats 4000000 in
theorem sameT_any (A1 A2 B1 B2 : Option Addr) (c1 c2 d1 d2 : Nat) (t u : TgL) (w : World) (ht : FewT t) (hu : FewT u) (h1 : Txs w A1 t.1) (h2 : Prs w A2 t.2) (h3 : Txs w B1 u.1) (h4 : Prs w B2 u.2) :
    Calls Tryz.prog 21 #[.agg #[.slice A1 t.1.length c1, .slice A2 t.2.length c2], .agg #[.slice B1 u.1.length d1, .slice B2 u.2.length d2]] w (BoolR (decide (t = u)) w) := by
  unfold BoolR
  have hka := (box_tg w A1 A2 t.1.length c1 t.2.length c2).alloc (.cells #[.slice B1 u.1.length d1, .slice B2 u.2.length d2] 26)
  have hkb := box_tg (w.alloc (.cells #[.slice A1 t.1.length c1, .slice A2 t.2.length c2] 26)) B1 B2 u.1.length d1 u.2.length d2
  rw [World.size_alloc] at hkb
  have hal := ((Below.refl w.heap.size w).alloc (Nat.le_refl _) (.cells #[.slice A1 t.1.length c1, .slice A2 t.2.length c2] 26)).alloc (by simp) (.cells #[.slice B1 u.1.length d1, .slice B2 u.2.length d2] 26)
  obtain ⟨w1, hw1⟩ : ∃ X, (w.alloc (.cells #[.slice A1 t.1.length c1, .slice A2 t.2.length c2] 26)).alloc (.cells #[.slice B1 u.1.length d1, .slice B2 u.2.length d2] 26) = X := ⟨_, rfl⟩
  rw [hw1] at hka hkb hal
  have hal' := Lib.hid hal
  have hka' := Lib.hid hka
  have hkb' := Lib.hid hkb
  have a0 := hka.cell 0
  have b0 := hkb.cell 0
  have he1 := Lib.hid (equalTx_any A1 B1 c1 d1 t.1 u.1 w1 (h1.below hal) (h3.below hal) (by have := ht.parts; omega) (by have := hu.parts; omega))
  have he2 := Lib.hid (fun W (hW : Below w.heap.size w W) => equalPr_any A2 B2 c2 d2 t.2 u.2 W (h2.below hW) (h4.below hW) (by have := ht.pairs; omega) (by have := hu.pairs; omega) ht.pair hu.pair)
  have hd : decide (t = u) = (decide (t.1 = u.1) && decide (t.2 = u.2)) := by
    obtain ⟨p, q⟩ := t
    obtain ⟨p', q'⟩ := u
    simp
  unfold BoolR at he1 he2
  rw [hd]
  generalize decide (t.1 = u.1) = r1 at *
  generalize decide (t.2 = u.2) = r2 at *
  clear hal hka hkb hd h1 h2 h3 h4
  cases r1
  · go_enter Tryz.func21, Tryz.ntmps21
    go_wp2_with (go_at_call 41; (with_reducible refine Calls.mono he1.out ?_); rintro e w2 ⟨rfl, hb2⟩; have hb2' := Lib.hid hb2; clear hb2)
    go_ret
    exact ⟨rfl, hal'.out.trans (hb2'.out.mono hal'.out.size)⟩
  · go_enter Tryz.func21, Tryz.ntmps21
    go_wp2_with (first
      | (go_at_call 41; (with_reducible refine Calls.mono he1.out ?_); rintro e w2 ⟨rfl, hb2⟩; have x1 := (hka'.out.below hb2 hka'.out.lt).cell 1; have y1 := (hkb'.out.below hb2 hkb'.out.lt).cell 1; have hb2' := Lib.hid (hal'.out.trans (hb2.mono hal'.out.size)); clear hb2)
      | (go_at_call 42; (with_reducible refine Calls.mono (he2.out _ hb2'.out) ?_); rintro e w3 ⟨rfl, hb3⟩; have hb3' := Lib.hid hb3; clear hb3))
    go_ret
    exact ⟨rfl, hb2'.out.trans (hb3'.out.mono hb2'.out.size)⟩
end Go.Proofs.YtcogdfgmmpfkkaaGreatDoor
