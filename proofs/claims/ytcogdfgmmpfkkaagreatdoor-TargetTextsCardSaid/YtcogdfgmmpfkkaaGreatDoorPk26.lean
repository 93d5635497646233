import Derived.Test.YtcogdfgmmpfkkaaGreatDoorPk25
namespace Go.Proofs.YtcogdfgmmpfkkaaGreatDoor
open Go.RowKit
attribute [local go_sem] Oper.semAt_some

/-! ## The document's Text and Same -/
theorem queryTx_snoc (l : List PairL) (x : PairL) : queryTx (l ++ [x]) = queryTx l ++ (if l.length = 0 then 63 else 38) :: pairTx x := by
  cases l with
  | nil => simp [queryTx]
  | cons q r => simp [queryTx]
theorem queryTx_len (l : List PairL) (h : ∀ q ∈ l, q.1.length ≤ 1000 ∧ q.2.length ≤ 1000) : (queryTx l).length ≤ 6002 * l.length := by
  have hp : ∀ q ∈ l, (pairTx q).length ≤ 6001 := fun q hq => by
    obtain ⟨h1, h2⟩ := h q hq
    have e1 := encL_len q.1
    have e2 := encL_len q.2
    unfold pairTx
    rw [List.length_append, List.length_cons]
    omega
  cases l with
  | nil => simp [queryTx]
  | cons q r =>
    have h1 := hp q List.mem_cons_self
    have h2 := flat_len (fun x => 38 :: pairTx x) 6002 r (fun x hx => by have := hp x (List.mem_cons_of_mem _ hx); simp; omega)
    unfold queryTx
    rw [List.length_cons, List.length_append, List.length_cons]
    omega
theorem pathTx_len (l : List (List UInt8)) (h : ∀ x ∈ l, x.length ≤ 1000) : (pathTx l).length ≤ 3001 * l.length :=
  flat_len (fun x => 47 :: encL x) 3001 l (fun x hx => by have := h x hx; have := encL_len x; simp; omega)
theorem cat5 (l k v : List UInt8) (c : UInt8) : (⟨l.toArray⟩ : ByteArray) ++ ⟨#[c]⟩ ++ ⟨k.toArray⟩ ++ ⟨#[61]⟩ ++ ⟨v.toArray⟩ = ⟨(l ++ c :: (k ++ 61 :: v)).toArray⟩ := by
  refine (show _ = _ from ?_ : (⟨l.toArray⟩ : ByteArray) ++ ⟨[c].toArray⟩ ++ ⟨k.toArray⟩ ++ ⟨[61].toArray⟩ ++ ⟨v.toArray⟩ = _)
  rw [app_str, app_str, app_str, app_str]
  simp
theorem enc_quiet (k : List UInt8) (hk : k.length ≤ 1000000) (X : World) (n a : Nat) : Calls Tryz.prog 14 #[.string ⟨k.toArray⟩] (X.drewN (n + a)) fun e w'' => e = .returned (.string ⟨(encL k).toArray⟩) ∧ ∃ m, w'' = X.drewN (n + m) :=
  (refEncode_any k (X.drewN (n + a)) hk).mono fun e w' ⟨h, q, hq⟩ => ⟨h, a + q, by rw [hq]; simp [Nat.add_assoc]⟩
set_option maxRecDepth 100000 in
set_option maxHeartbeats 4000000 in
theorem refText_any (A1 A2 : Option Addr) (c1 c2 : Nat) (t : TgL) (w : World) (ht : FewT t) (h1 : Txs w A1 t.1) (h2 : Prs w A2 t.2) : Calls Tryz.prog 18 #[.agg #[.slice A1 t.1.length c1, .slice A2 t.2.length c2]] w (StrR (textTg t) w) := by
  unfold StrR textTg
  obtain ⟨p, qs⟩ := t
  obtain ⟨hp, hq, hpl, hql⟩ := ht
  simp only at *
  have hk := box_tg w A1 A2 p.length c1 qs.length c2
  have hal := Lib.hid ((Below.refl w.heap.size w).alloc (Nat.le_refl _) (.cells #[.slice A1 p.length c1, .slice A2 qs.length c2] 26))
  obtain ⟨w1, hw1⟩ : ∃ X, w.alloc (.cells #[.slice A1 p.length c1, .slice A2 qs.length c2] 26) = X := ⟨_, rfl⟩
  rw [hw1] at hk hal
  have hw1' := Lib.hid hw1
  have hx1 := Lib.hid (h1.below hal.out)
  have hx2 := Lib.hid (h2.below hal.out)
  have hk' := Lib.hid hk
  have hpl' := Lib.hid hpl
  have hql' := Lib.hid hql
  have hpt := pathTx_len p hpl
  have hpt : (pathTx p).length ≤ 3001000 := by omega
  clear hw1 h1 h2 hk hpl hql
  go_enter Tryz.func18, Tryz.ntmps18
  go_upto_region 1 with (fail)
  rw [hw1'.out]
  go_wp2
  go_loopw [3, 4] (fun v x W => ∃ i : Nat, i ≤ p.length ∧ x = .int .i64 (i : Int) ∧ v = .string ⟨(pathTx (p.take i)).toArray⟩ ∧ ∃ q, W = w1.drewN q) (fun _ x _ => p.length - (intOf x).toNat)
  case atStart => exact ⟨0, Nat.zero_le _, rfl, rfl, 0, rfl⟩
  case round =>
    obtain ⟨i, hil, rfl, rfl, n, rfl⟩ := hrel
    have k0 : (w1.drewN n).cell? ⟨w.heap.size, 0, none⟩ = some (.slice A1 p.length c1) := (hk'.out.drewN n).cell 0
    by_cases hlt : i < p.length
    · have hltI : (i : Int) < (p.length : Int) := by omega
      obtain ⟨b, o, hA, _, hc⟩ := hx1.out (by omega)
      subst hA
      have ck : (w1.drewN n).cell? ⟨b, o + i, none⟩ = some (.string ⟨p[i].toArray⟩) := hc i _ (List.getElem?_eq_getElem hlt)
      have hyl := hpl'.out _ (List.getElem_mem hlt)
      have hen := Lib.hid (show pathTx (p.take (i + 1)) = pathTx (p.take i) ++ 47 :: encL p[i] by rw [take_next p hlt, pathTx_snoc])
      have hel := pathTx_len (p.take i) (fun x hx => hpl'.out x (List.mem_of_mem_take hx))
      rw [List.length_take] at hel
      have hel : (pathTx (p.take i)).length ≤ 3001000 := by omega
      have hyn := encL_len p[i]
      have hyn : (encL p[i]).length ≤ 3000 := by omega
      have hec := Lib.hid (fun W => refEncode_any p[i] W (by omega))
      clear hc
      generalize hy : p[i] = y at *
      generalize pathTx (p.take i) = el at *
      generalize encL y = ey at *
      go_wp2_with (go_at_call 14; (with_reducible refine Calls.mono (hec.out _) ?_); rintro e w9 ⟨rfl, q, hw9⟩; subst hw9)
      exact ⟨⟨i + 1, by omega, by go_num, by rw [hen.out, cat2], n + q, by simp⟩, by simp [intOf]; omega⟩
    · obtain rfl : i = p.length := by omega
      rw [List.take_length] at *
      go_wp2
      go_loopw [3, 5] (fun v x W => ∃ i : Nat, i ≤ qs.length ∧ x = .int .i64 (i : Int) ∧ v = .string ⟨(pathTx p ++ queryTx (qs.take i)).toArray⟩ ∧ ∃ q, W = w1.drewN q) (fun _ x _ => qs.length - (intOf x).toNat)
      case atStart => exact ⟨0, Nat.zero_le _, rfl, by rw [List.take_zero]; simp [queryTx], n, rfl⟩
      case round =>
        obtain ⟨i, hil, rfl, rfl, n, rfl⟩ := hrel
        have k1 : (w1.drewN n).cell? ⟨w.heap.size, 1, none⟩ = some (.slice A2 qs.length c2) := (hk'.out.drewN n).cell 1
        by_cases hlt : i < qs.length
        · have hltI : (i : Int) < (qs.length : Int) := by omega
          obtain ⟨b, o, hA, _, hc⟩ := hx2.out (by omega)
          subst hA
          obtain ⟨ck1, ck2⟩ := hc i _ (List.getElem?_eq_getElem hlt)
          have ck1 : (w1.drewN n).cell? ⟨b, o + i * 2, none⟩ = some (.string ⟨qs[i].1.toArray⟩) := ck1
          have ck2 : (w1.drewN n).cell? ⟨b, o + i * 2 + 1, none⟩ = some (.string ⟨qs[i].2.toArray⟩) := ck2
          obtain ⟨hy1, hy2⟩ := hql'.out _ (List.getElem_mem hlt)
          have hen := Lib.hid (show pathTx p ++ queryTx (qs.take (i + 1)) = (pathTx p ++ queryTx (qs.take i)) ++ (if i = 0 then 63 else 38) :: (encL qs[i].1 ++ 61 :: encL qs[i].2) by
            rw [take_next qs hlt, queryTx_snoc, List.length_take, Nat.min_eq_left (by omega), List.append_assoc]; rfl)
          have hel := queryTx_len (qs.take i) (fun x hx => hql'.out x (List.mem_of_mem_take hx))
          rw [List.length_take] at hel
          have hel : (pathTx p ++ queryTx (qs.take i)).length ≤ 10000000 := by rw [List.length_append]; omega
          have e1 := encL_len qs[i].1
          have e2 := encL_len qs[i].2
          have e1 : (encL qs[i].1).length ≤ 3000 := by omega
          have e2 : (encL qs[i].2).length ≤ 3000 := by omega
          have hq1 := Lib.hid (fun a => enc_quiet qs[i].1 (by omega) w1 n a)
          have hq2 := Lib.hid (fun a => enc_quiet qs[i].2 (by omega) w1 n a)
          clear hc
          generalize qs[i].1 = y1 at *
          generalize qs[i].2 = y2 at *
          generalize pathTx p ++ queryTx (qs.take i) = el at *
          generalize encL y1 = ey1 at *
          generalize encL y2 = ey2 at *
          have m0 : ∀ m, (w1.drewN m).cell? ⟨w.heap.size, 1, none⟩ = some (.slice (some ⟨b, o, none⟩) qs.length c2) := fun m => (hk'.out.drewN m).cell 1
          have m1 : ∀ m, (w1.drewN m).cell? ⟨b, o + i * 2, none⟩ = some (.string ⟨y1.toArray⟩) := fun m => ck1
          have m2 : ∀ m, (w1.drewN m).cell? ⟨b, o + i * 2 + 1, none⟩ = some (.string ⟨y2.toArray⟩) := fun m => ck2
          have s1 : ¬ 9223372036854775807 < el.length + 1 := by omega
          have s2 : ¬ 9223372036854775807 < el.length + 1 + ey1.length := by omega
          have s3 : ¬ 9223372036854775807 < el.length + 1 + ey1.length + 1 := by omega
          have s4 : ¬ 9223372036854775807 < el.length + 1 + ey1.length + 1 + ey2.length := by omega
          by_cases hi0 : i = 0
          · subst hi0
            rw [if_pos rfl] at hen
            simp only [Nat.zero_mul, Nat.add_zero] at m1 m2
            go_wp2
            go_quiet (first | (go_at_call 14; with_reducible exact hq1.out _) | (go_at_call 14; with_reducible exact hq2.out _))
            go_wp2
            exact ⟨⟨1, by omega, by go_num, by rw [hen.out, cat5], _, rfl⟩, by simp [intOf]; omega⟩
          · rw [if_neg hi0] at hen
            have hi0I : ((i : Int) == 0) = false := by rw [beq_eq_false_iff_ne]; omega
            go_wp2
            go_quiet (first | (go_at_call 14; with_reducible exact hq1.out _) | (go_at_call 14; with_reducible exact hq2.out _))
            go_wp2
            exact ⟨⟨i + 1, by omega, by go_num, by rw [hen.out, cat5], _, rfl⟩, by simp [intOf]; omega⟩
        · obtain rfl : i = qs.length := by omega
          rw [List.take_length] at *
          go_wp2
          go_ret
          exact ⟨rfl, below_draws hal.out n⟩
end Go.Proofs.YtcogdfgmmpfkkaaGreatDoor
