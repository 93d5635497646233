import Derived.Test.YthnmphnolgmfhaaDoorTkH
namespace Go.Proofs.YthnmphnolgmfhaaDoor
open Go.RowKit
attribute [local go_sem] Oper.semAt_some

/-! ## The document's items -/
set_option maxRecDepth 100000 in
set_option maxHeartbeats 4000000 in
theorem refItems_any (l : List UInt8) (w : World) (hl : l.length ≤ 100000) : Calls Tryd.prog 18 #[.string ⟨l.toArray⟩] w (StrsR (itemsL l) w) := by
  unfold StrsR
  rw [itemsL_of]
  go_enter Tryd.func18, Tryd.ntmps18
  go_wp2_with fail
  go_loopw [3, 4, 5] (fun v f x W => ∃ (done : List (List UInt8)) (fr k : Nat), f = .int .i64 (fr : Int) ∧ x = .int .i64 (k : Int) ∧ k ≤ l.length + 1 ∧ fr ≤ l.length + 1 ∧ PartQ 44 l done fr k ∧ Strs W w.heap.size v (itemsOf done) ∧ Below w.heap.size w W) (fun _ _ x _ => l.length + 1 - (intOf x).toNat)
  case atStart => exact ⟨[], 0, 0, rfl, rfl, Nat.zero_le _, Nat.zero_le _, .inl ⟨Nat.zero_le _, PartS.start 44 l⟩, strs_nil _ _, Below.refl _ _⟩
  case round =>
    obtain ⟨done, fr, k, rfl, rfl, hk, hfr, hq, hst, hb⟩ := hrel
    obtain ⟨A3, g3, c3, cur3, hv3, _⟩ := hst.shape
    have hfew := hq.few
    have hio := itemsOf_len done
    obtain ⟨n3, hn3⟩ : ∃ n3, (itemsOf done).length = n3 := ⟨_, rfl⟩
    rw [hn3] at hv3 hio
    subst hv3
    have hn3' := Lib.hid hn3
    have hq' := Lib.hid hq
    have hst' := Lib.hid hst
    have hb' := Lib.hid hb
    clear hn3 hq hst hb
    by_cases hle : k ≤ l.length
    · have hleI : (k : Int) ≤ (l.length : Int) := by omega
      have hP := Lib.hid (show PartS 44 l done fr k from hq'.out.elim (fun h => h.2) (fun h => by omega))
      have hfk := hP.out.le
      have hfkI : (fr : Int) ≤ (k : Int) := by omega
      have hx1 := exE l fr k
      obtain ⟨t, ht⟩ : ∃ t, (l.drop fr).take (k - fr) = t := ⟨_, rfl⟩
      have htl : t.length ≤ 1000000 := by
        have : t.length ≤ l.length := by rw [← ht]; simp; omega
        omega
      rw [ht] at hx1
      have htr := Lib.hid (refTrim_any t wr htl)
      obtain ⟨hi1, hi2⟩ := itemsOf_snoc done t
      have ht' := Lib.hid ht
      have hz3 := hb'.out.size
      have hal := Lib.hid (((Below.refl wr.heap.size wr).alloc (Nat.le_refl _) (.cells #[.string ⟨(trimL t).toArray⟩] 9)))
      have hnew := Lib.hid (Has.new wr 9 #[.string ⟨(trimL t).toArray⟩])
      have hst2 := Lib.hid (hst'.out.below hal.out)
      have hemp : trimL t = [] → (trimL t).isEmpty = true := fun e => by rw [e]; rfl
      have hful : trimL t ≠ [] → (trimL t).isEmpty = false := fun e => by
        cases h : trimL t with
        | nil => exact absurd h e
        | cons b r => rfl
      have hcase : (k = l.length ∧ PartQ 44 l (done ++ [t]) (k + 1) (k + 1)) ∨ (∃ hlt : k < l.length, l[k] = 44 ∧ PartQ 44 l (done ++ [t]) (k + 1) (k + 1)) ∨ (∃ hlt : k < l.length, l[k] ≠ 44 ∧ PartQ 44 l done fr (k + 1)) := by
        by_cases heq : k = l.length
        · refine .inl ⟨heq, .inr ⟨by omega, ?_⟩⟩
          subst heq
          rw [hP.out.end, ← ht, List.take_of_length_le (by simp)]
        · have hlt : k < l.length := by omega
          by_cases hc : l[k] = 44
          · exact .inr (.inl ⟨hlt, hc, .inl ⟨by omega, by rw [← ht]; exact hP.out.cut hlt hc⟩⟩)
          · exact .inr (.inr ⟨hlt, hc, .inl ⟨by omega, hP.out.next hlt hc⟩⟩)
      clear ht
      generalize trimL t = tt at *
      rcases hcase with ⟨heq, hnx⟩ | ⟨hlt, hc, hnx⟩ | ⟨hlt, hc, hnx⟩
      · subst heq
        have hnl : ¬ (l.length : Int) < (l.length : Int) := by omega
        have hnx' := Lib.hid hnx
        clear hnx
        by_cases he : tt = []
        · have e1 := hemp he
          have e2 := Lib.hid (hi1 he)
          clear hemp hful hi1 hi2 he
          go_wp2_with (go_at_call 12; (with_reducible refine Calls.mono htr.out ?_); rintro e w2 ⟨rfl, hw2⟩; obtain rfl := hw2.symm)
          exact ⟨⟨done ++ [t], l.length + 1, l.length + 1, by go_num, by go_num, by omega, by omega, hnx'.out, by rw [e2.out]; exact hst'.out, hb'.out⟩, by simp [intOf]⟩
        · have e1 := hful he
          have e2 := Lib.hid (hi2 he)
          clear hemp hful hi1 hi2 he
          go_wp2_with (first | (go_at_call 12; (with_reducible refine Calls.mono htr.out ?_); rintro e w2 ⟨rfl, hw2⟩; obtain rfl := hw2.symm) | (at_builtin; refine wpList_append_str rfl _ _ rfl rfl hst2.out _ tt rfl hnew.out (by rw [hn3'.out]; omega) (by simp; omega) ?_; intro v4 w4 ho4 hg4; have ho4' := Lib.hid ho4; have hg4' := Lib.hid hg4; clear ho4 hg4))
          exact ⟨⟨done ++ [t], l.length + 1, l.length + 1, by go_num, by go_num, by omega, by omega, hnx'.out, by rw [e2.out]; exact ho4'.out, ((hb'.out.trans (hal.out.mono hz3)).grown hg4'.out (by simp; omega) (fun g e => (hst2.out.own g e).1))⟩, by simp [intOf]⟩
      · have hltI : (k : Int) < (l.length : Int) := by omega
        have hce : ((((⟨l.toArray⟩ : ByteArray)[k]'hlt).toNat : Int) == 44) = true := by rw [byE l k hlt, hc]; rfl
        have hnx' := Lib.hid hnx
        clear hnx hc
        by_cases he : tt = []
        · have e1 := hemp he
          have e2 := Lib.hid (hi1 he)
          clear hemp hful hi1 hi2 he
          go_wp2_with (go_at_call 12; (with_reducible refine Calls.mono htr.out ?_); rintro e w2 ⟨rfl, hw2⟩; obtain rfl := hw2.symm)
          exact ⟨⟨done ++ [t], k + 1, k + 1, by go_num, by go_num, by omega, by omega, hnx'.out, by rw [e2.out]; exact hst'.out, hb'.out⟩, by simp [intOf]; omega⟩
        · have e1 := hful he
          have e2 := Lib.hid (hi2 he)
          clear hemp hful hi1 hi2 he
          go_wp2_with (first | (go_at_call 12; (with_reducible refine Calls.mono htr.out ?_); rintro e w2 ⟨rfl, hw2⟩; obtain rfl := hw2.symm) | (at_builtin; refine wpList_append_str rfl _ _ rfl rfl hst2.out _ tt rfl hnew.out (by rw [hn3'.out]; omega) (by simp; omega) ?_; intro v4 w4 ho4 hg4; have ho4' := Lib.hid ho4; have hg4' := Lib.hid hg4; clear ho4 hg4))
          exact ⟨⟨done ++ [t], k + 1, k + 1, by go_num, by go_num, by omega, by omega, hnx'.out, by rw [e2.out]; exact ho4'.out, ((hb'.out.trans (hal.out.mono hz3)).grown hg4'.out (by simp; omega) (fun g e => (hst2.out.own g e).1))⟩, by simp [intOf]; omega⟩
      · have hltI : (k : Int) < (l.length : Int) := by omega
        have hce : ((((⟨l.toArray⟩ : ByteArray)[k]'hlt).toNat : Int) == 44) = false := by
          rw [byE l k hlt, beq_eq_false_iff_ne]
          intro e
          exact hc (UInt8.toNat_inj.1 (by have : (44 : UInt8).toNat = 44 := rfl; omega))
        have hnx' := Lib.hid hnx
        clear hnx hc hemp hful hi1 hi2
        go_wp2_with fail
        exact ⟨⟨done, fr, k + 1, rfl, by go_num, by omega, hfr, hnx'.out, hst'.out, hb'.out⟩, by simp [intOf]; omega⟩
    · have hgt : decide ((k : Int) ≤ (l.length : Int)) = false := decide_eq_false (by omega)
      have hgt2 : decide (k ≤ l.length) = false := decide_eq_false hle
      have hd := Lib.hid (show done = partsG 44 l from hq'.out.elim (fun h => absurd h.1 hle) (fun h => h.2))
      go_wp2_with fail
      go_ret
      exact ⟨_, rfl, by rw [← hd.out]; exact hst'.out, hb'.out⟩
end Go.Proofs.YthnmphnolgmfhaaDoor
