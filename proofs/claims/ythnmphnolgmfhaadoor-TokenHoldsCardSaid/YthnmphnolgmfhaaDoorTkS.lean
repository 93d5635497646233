import Derived.Test.YthnmphnolgmfhaaDoorTkQ
namespace Go.Proofs.YthnmphnolgmfhaaDoor
open Go.RowKit
attribute [local go_sem] Oper.semAt_some

/-! ## What is trimmed stays so; items are values: the law -/
set_option maxRecDepth 100000 in
set_option maxHeartbeats 4000000 in
theorem holds_no (s : List UInt8) (w : World) (hs : s.length ≤ 100) (hM : MaxT w) (hv : valueL s = false) : Calls Tryd.prog 5 #[.string ⟨s.toArray⟩] w (BoolR true w) := by
  unfold BoolR
  have hM' := Lib.hid hM
  have hsI : ¬ (100 : Int) < (s.length : Int) := by omega
  have h1 := Lib.hid (fun W => trim_any s W (by omega))
  have h2 := Lib.hid (fun W => lower_any s W (by omega))
  have h3 := Lib.hid (fun W => trim_any (trimL s) W (by have := trimL_len s; omega))
  have h4 := Lib.hid (fun W => lower_any (lowerL s) W (by unfold lowerL; simp; omega))
  have h5 := Lib.hid (fun W => same_any s (lowerL s) W (by omega) (by unfold lowerL; simp; omega))
  have h6 := Lib.hid (fun W => value_any s W (by omega))
  have h7 := Lib.hid (fun W (hW : MaxT W) => items_any s W (by omega) hW)
  rw [trimL_trimL] at h3
  rw [lowerL_lowerL] at h4 h5
  rw [show (lowerL s == lowerL s) = true from beq_self_eq_true _] at h5
  rw [hv] at h6
  unfold BoolR at h5 h6
  unfold StrR at h1 h2 h3 h4
  unfold StrsR at h7
  have hgood := Lib.hid (fun p (hp : p ∈ itemsL s) => itemsL_good hp)
  have hil := commasL_wide s
  obtain ⟨its, hits⟩ : ∃ l, itemsL s = l := ⟨_, rfl⟩
  rw [hits] at hgood h7 hil
  generalize trimL s = s3 at *
  generalize lowerL s = s4 at *
  obtain ⟨n, hn⟩ : ∃ n, its.length = n := ⟨_, rfl⟩
  have hn' := Lib.hid hn
  rw [hn] at hil
  clear hM hv hits hn
  go_enter Tryd.func5, Tryd.ntmps5
  go_wp2_with (first
    | (go_at_call 11; (with_reducible refine Calls.mono (h1.out _) ?_); rintro e w1 ⟨rfl, hb1⟩; have hB1 := Lib.hid hb1; clear hb1)
    | (go_at_call 13; (with_reducible refine Calls.mono (h2.out _) ?_); rintro e w2 ⟨rfl, hb2⟩; have hB2 := Lib.hid (below_on hB1.out hb2); clear hb2)
    | (go_at_call 11; (with_reducible refine Calls.mono (h3.out _) ?_); rintro e w3 ⟨rfl, hb3⟩; have hB3 := Lib.hid (below_on hB2.out hb3); clear hb3)
    | (go_at_call 13; (with_reducible refine Calls.mono (h4.out _) ?_); rintro e w4 ⟨rfl, hb4⟩; have hB4 := Lib.hid (below_on hB3.out hb4); clear hb4)
    | (go_at_call 15; (with_reducible refine Calls.mono (h5.out _) ?_); rintro e w5 ⟨rfl, hb5⟩; have hB5 := Lib.hid (below_on hB4.out hb5); clear hb5)
    | (go_at_call 9; (with_reducible refine Calls.mono (h6.out _) ?_); rintro e w6 ⟨rfl, hb6⟩; have hB6 := Lib.hid (below_on hB5.out hb6); clear hb6)
    | (go_at_call 17; (with_reducible refine Calls.mono (h7.out _ (hM'.out.below hB6.out)) ?_); rintro e w9 ⟨v9, rfl, hv9, hb9⟩; obtain ⟨A9, c9, rfl, hs9⟩ := hv9.sl; rw [hn'.out]; have hB9 := Lib.hid (below_on hB6.out hb9); have hS9 := Lib.hid hs9; clear hb9 hs9 hv9))
  clear h1 h2 h3 h4 h5 h7
  go_loopw [6] (fun x W => ∃ i : Nat, i ≤ n ∧ x = .int .i64 (i : Int) ∧ Below w.heap.size w W ∧ Below w9.heap.size w9 W) (fun x _ => n - (intOf x).toNat)
  case atStart => exact ⟨0, Nat.zero_le _, rfl, hB9.out, Below.refl _ _⟩
  case round =>
    obtain ⟨i, hi, rfl, hb, hb9⟩ := hrel
    by_cases hlt : i < n
    · have hltI : (i : Int) < (n : Int) := by omega
      have hil : i < its.length := by have := hn'.out; omega
      obtain ⟨g, cs, rfl, hh, hcs⟩ := hS9.out.some (by omega)
      have ck := (hh.below hb9 hh.lt).cell i
      rw [hcs i _ (List.getElem?_eq_getElem hil)] at ck
      obtain ⟨hy1, hy2, hy3, hy4⟩ := hgood.out _ (List.getElem_mem hil)
      have hb' := Lib.hid hb
      have hb9' := Lib.hid hb9
      have hkeep := Lib.hid (fun (V : World) (hV : Below w9.heap.size w9 V) => ((hh.below hV hh.lt).cell i).trans (hcs i _ (List.getElem?_eq_getElem hil)))
      generalize its[i] = y at *
      have hye : y.isEmpty = false := by cases y with
        | nil => exact absurd rfl hy1
        | cons b r => rfl
      have hyl : y.length ≤ 1000000 := by omega
      have hvy := Lib.hid (fun W => value_any y W hyl)
      unfold BoolR at hvy
      clear hcs hh hy1 hb hb9
      go_wp2_with (first
        | (go_at_call 9; (with_reducible refine Calls.mono (h6.out _) ?_); rintro e w11 ⟨rfl, hb11⟩; have hB11 := Lib.hid (below_on hb'.out hb11); have hC11 := Lib.hid (below_on hb9'.out hb11); have hck11 := Lib.hid (hkeep.out w11 hC11.out); clear hb11))
      clear ck
      go_loopw [7] (fun x V => ∃ k : Nat, k ≤ y.length ∧ x = .int .i64 (k : Int) ∧ V = w11) (fun x _ => y.length - (intOf x).toNat)
      case atStart => exact ⟨0, Nat.zero_le _, rfl, rfl⟩
      case round =>
        obtain ⟨k, hk, rfl, hV⟩ := hrel
        obtain rfl := hV
        have ck := hck11.out
        by_cases hkl : k < y.length
        · have hklI : (k : Int) < (y.length : Int) := by omega
          have hce : ((((⟨y.toArray⟩ : ByteArray)[k]'hkl).toNat : Int) == 44) = false := by
            rw [byE y k hkl, beq_eq_false_iff_ne]
            intro e
            exact hy2 (by rw [show (44 : UInt8) = y[k] from UInt8.toNat_inj.1 (by have : (44 : UInt8).toNat = 44 := rfl; omega)]; exact List.getElem_mem hkl)
          go_wp2
          exact ⟨⟨k + 1, by omega, by first | rfl | go_num, trivial⟩, by simp [intOf]; omega⟩
        · have hklI : ¬ (k : Int) < (y.length : Int) := by omega
          go_wp2
          exact ⟨⟨i + 1, by omega, by first | rfl | go_num, hB11.out, hC11.out⟩, by simp [intOf]; omega⟩
    · obtain rfl : i = n := by omega
      have hb' := Lib.hid hb
      clear hb hb9
      have hnI : ¬ (i : Int) < (i : Int) := by omega
      go_wp2_with (first
        | (go_at_call 9; (with_reducible refine Calls.mono (h6.out _) ?_); rintro e w11 ⟨rfl, hb11⟩; have hB11 := Lib.hid (below_on hb'.out hb11); clear hb11)
        | (go_at_call 6; (with_reducible refine Calls.mono (works_any _ (hM'.out.below hB11.out)) ?_); rintro e w12 ⟨rfl, hb12⟩; have hB12 := Lib.hid (below_on hB11.out hb12); clear hb12))
      go_ret
      exact ⟨rfl, hB12.out⟩
set_option maxRecDepth 100000 in
set_option maxHeartbeats 4000000 in
theorem holds_yes (s : List UInt8) (w : World) (hs : s.length ≤ 100) (hM : MaxT w) (hv : valueL s = true) : Calls Tryd.prog 5 #[.string ⟨s.toArray⟩] w (BoolR true w) := by
  unfold BoolR
  have hM' := Lib.hid hM
  have hva : s.all valB = true ∧ trimL s = s := by unfold valueL at hv; rw [Bool.and_eq_true, beq_iff_eq] at hv; exact hv
  have hsI : ¬ (100 : Int) < (s.length : Int) := by omega
  have h1 := Lib.hid (fun W => trim_any s W (by omega))
  have h2 := Lib.hid (fun W => lower_any s W (by omega))
  have h3 := Lib.hid (fun W => trim_any (trimL s) W (by have := trimL_len s; omega))
  have h4 := Lib.hid (fun W => lower_any (lowerL s) W (by unfold lowerL; simp; omega))
  have h5 := Lib.hid (fun W => same_any s (lowerL s) W (by omega) (by unfold lowerL; simp; omega))
  have h6 := Lib.hid (fun W => value_any s W (by omega))
  have h7 := Lib.hid (fun W (hW : MaxT W) => items_any s W (by omega) hW)
  rw [trimL_trimL] at h3
  rw [lowerL_lowerL] at h4 h5
  rw [show (lowerL s == lowerL s) = true from beq_self_eq_true _] at h5
  rw [hv] at h6
  unfold BoolR at h5 h6
  unfold StrR at h1 h2 h3 h4
  unfold StrsR at h7
  have hgood := Lib.hid (fun p (hp : p ∈ itemsL s) => itemsL_good hp)
  have hil := commasL_wide s
  obtain ⟨its, hits⟩ : ∃ l, itemsL s = l := ⟨_, rfl⟩
  rw [hits] at hgood h7 hil
  rw [hva.2] at h1 h3
  have hva' := Lib.hid hva.1
  have hqu := quoteL_esc s hva.1
  clear hva
  generalize lowerL s = s4 at *
  obtain ⟨n, hn⟩ : ∃ n, its.length = n := ⟨_, rfl⟩
  have hn' := Lib.hid hn
  rw [hn] at hil
  clear hM hv hits hn
  go_enter Tryd.func5, Tryd.ntmps5
  go_wp2_with (first
    | (go_at_call 11; (with_reducible refine Calls.mono (h1.out w) ?_); rintro e w1 ⟨rfl, hb1⟩; have hB1 := Lib.hid hb1; clear hb1)
    | (go_at_call 13; (with_reducible refine Calls.mono (h2.out _) ?_); rintro e w2 ⟨rfl, hb2⟩; have hB2 := Lib.hid (below_on hB1.out hb2); clear hb2)
    | (go_at_call 11; (with_reducible refine Calls.mono (h3.out _) ?_); rintro e w3 ⟨rfl, hb3⟩; have hB3 := Lib.hid (below_on hB2.out hb3); clear hb3)
    | (go_at_call 13; (with_reducible refine Calls.mono (h4.out _) ?_); rintro e w4 ⟨rfl, hb4⟩; have hB4 := Lib.hid (below_on hB3.out hb4); clear hb4)
    | (go_at_call 15; (with_reducible refine Calls.mono (h5.out _) ?_); rintro e w5 ⟨rfl, hb5⟩; have hB5 := Lib.hid (below_on hB4.out hb5); clear hb5)
    | (go_at_call 9; (with_reducible refine Calls.mono (h6.out _) ?_); rintro e w6 ⟨rfl, hb6⟩; have hB6 := Lib.hid (below_on hB5.out hb6); clear hb6)
    | (go_at_call 17; (with_reducible refine Calls.mono (h7.out _ (hM'.out.below hB6.out)) ?_); rintro e w9 ⟨v9, rfl, hv9, hb9⟩; obtain ⟨A9, c9, rfl, hs9⟩ := hv9.sl; rw [hn'.out]; have hB9 := Lib.hid (below_on hB6.out hb9); have hS9 := Lib.hid hs9; clear hb9 hs9 hv9))
  clear h1 h2 h3 h4 h5 h7
  go_loopw [6] (fun x W => ∃ i : Nat, i ≤ n ∧ x = .int .i64 (i : Int) ∧ Below w.heap.size w W ∧ Below w9.heap.size w9 W) (fun x _ => n - (intOf x).toNat)
  case atStart => exact ⟨0, Nat.zero_le _, rfl, hB9.out, Below.refl _ _⟩
  case round =>
    obtain ⟨i, hi, rfl, hb, hb9⟩ := hrel
    by_cases hlt : i < n
    · have hltI : (i : Int) < (n : Int) := by omega
      have hil : i < its.length := by have := hn'.out; omega
      obtain ⟨g, cs, rfl, hh, hcs⟩ := hS9.out.some (by omega)
      have ck := (hh.below hb9 hh.lt).cell i
      rw [hcs i _ (List.getElem?_eq_getElem hil)] at ck
      obtain ⟨hy1, hy2, hy3, hy4⟩ := hgood.out _ (List.getElem_mem hil)
      have hb' := Lib.hid hb
      have hb9' := Lib.hid hb9
      have hkeep := Lib.hid (fun (V : World) (hV : Below w9.heap.size w9 V) => ((hh.below hV hh.lt).cell i).trans (hcs i _ (List.getElem?_eq_getElem hil)))
      generalize its[i] = y at *
      have hye : y.isEmpty = false := by cases y with
        | nil => exact absurd rfl hy1
        | cons b r => rfl
      have hyl : y.length ≤ 1000000 := by omega
      have hvy := Lib.hid (fun W => value_any y W hyl)
      unfold BoolR at hvy
      rw [hy3 hva'.out] at hvy
      clear hcs hh hy1 hb hb9
      go_wp2_with (first
        | (go_at_call 9; (with_reducible refine Calls.mono (h6.out _) ?_); rintro e w11 ⟨rfl, hb11⟩; have hB11 := Lib.hid (below_on hb'.out hb11); have hC11 := Lib.hid (below_on hb9'.out hb11); have hck10 := Lib.hid (hkeep.out w11 hC11.out); have ck := hck10.out; clear hb11)
        | (go_at_call 9; (with_reducible refine Calls.mono (hvy.out _) ?_); rintro e w12 ⟨rfl, hb12⟩; have hB12 := Lib.hid (below_on hB11.out hb12); have hC12 := Lib.hid (below_on hC11.out hb12); have hck12 := Lib.hid (hkeep.out w12 hC12.out); clear hb12))
      clear ck
      go_loopw [7] (fun x V => ∃ k : Nat, k ≤ y.length ∧ x = .int .i64 (k : Int) ∧ V = w12) (fun x _ => y.length - (intOf x).toNat)
      case atStart => exact ⟨0, Nat.zero_le _, rfl, rfl⟩
      case round =>
        obtain ⟨k, hk, rfl, hV⟩ := hrel
        obtain rfl := hV
        have ck := hck12.out
        by_cases hkl : k < y.length
        · have hklI : (k : Int) < (y.length : Int) := by omega
          have hce : ((((⟨y.toArray⟩ : ByteArray)[k]'hkl).toNat : Int) == 44) = false := by
            rw [byE y k hkl, beq_eq_false_iff_ne]
            intro e
            exact hy2 (by rw [show (44 : UInt8) = y[k] from UInt8.toNat_inj.1 (by have : (44 : UInt8).toNat = 44 := rfl; omega)]; exact List.getElem_mem hkl)
          go_wp2
          exact ⟨⟨k + 1, by omega, by first | rfl | go_num, trivial⟩, by simp [intOf]; omega⟩
        · have hklI : ¬ (k : Int) < (y.length : Int) := by omega
          go_wp2
          exact ⟨⟨i + 1, by omega, by first | rfl | go_num, hB12.out, hC12.out⟩, by simp [intOf]; omega⟩
    · obtain rfl : i = n := by omega
      have hb' := Lib.hid hb
      clear hb hb9
      have hnI : ¬ (i : Int) < (i : Int) := by omega
      go_wp2_with (go_at_call 9; (with_reducible refine Calls.mono (h6.out _) ?_); rintro e w11 ⟨rfl, hb11⟩; have hB11 := Lib.hid (below_on hb'.out hb11); clear hb11)
      go_loopw [8, 9] (fun q x W => ∃ j : Nat, j ≤ s.length ∧ x = .int .i64 (j : Int) ∧ q = .string ⟨(34 :: escL (s.take j)).toArray⟩ ∧ W = w11) (fun _ x _ => s.length - (intOf x).toNat)
      case atStart => exact ⟨0, Nat.zero_le _, rfl, rfl, rfl⟩
      case round =>
        obtain ⟨j, hj, rfl, rfl, hV⟩ := hrel
        obtain rfl := hV
        by_cases hjl : j < s.length
        · have hjI : (j : Int) < (s.length : Int) := by omega
          have hlen : (escL (s.take j)).length ≤ 400 := by
            have : (escL (s.take j)).length = 2 * (s.take j).length := by
              unfold escL
              generalize s.take j = l
              induction l with
              | nil => rfl
              | cons b r ih => simp at ih ⊢; omega
            rw [this]; simp; omega
          have hadd := Lib.hid hlen
          have a1 := fun (V : World) => run_string_add_lists (P := Tryd.prog) V (34 :: escL (s.take j)) [92] (by simp only [List.length_cons]; omega) (by simp only [List.length_singleton]; omega)
          have a2 := fun (V : World) => run_string_add_lists (P := Tryd.prog) V (34 :: escL (s.take j) ++ [92]) [s[j]] (by simp only [List.length_append, List.length_cons, List.length_nil]; omega) (by simp only [List.length_singleton]; omega)
          have hx := cut_str s j (j + 1)
          rw [take_next s hjl, List.drop_append_of_le_length (by simp; omega), List.drop_of_length_le (by simp; omega), List.nil_append] at hx
          have hst := Lib.hid (show 34 :: escL (s.take (j + 1)) = 34 :: escL (s.take j) ++ [92] ++ [s[j]] by rw [take_next s hjl, show escL (s.take j ++ [s[j]]) = escL (s.take j) ++ [92, s[j]] from by unfold escL; rw [List.flatMap_append]; rfl]; simp)
          generalize 34 :: escL (s.take j) = q at *
          generalize s[j] = b at *
          go_wp2
          exact ⟨⟨j + 1, by omega, by first | rfl | go_num, by rw [hst.out]; simp, trivial⟩, by simp [intOf]; omega⟩
        · have hjI : ¬ (j : Int) < (s.length : Int) := by omega
          obtain rfl : j = s.length := by omega
          have hlen : (escL s).length ≤ 400 := by
            have : (escL s).length = 2 * s.length := by
              unfold escL
              generalize s = l
              induction l with
              | nil => rfl
              | cons b r ih => simp at ih ⊢; omega
            rw [this]; omega
          rw [List.take_length]
          have a1 := fun (V : World) => run_string_add_lists (P := Tryd.prog) V (34 :: escL s) [34] (by simp only [List.length_cons]; omega) (by simp only [List.length_singleton]; omega)
          have hq := Lib.hid (fun W => quoted_any (34 :: escL s ++ [34]) W (by simp only [List.length_append, List.length_cons, List.length_nil]; omega))
          rw [show quotedL (34 :: escL s ++ [34]) = some s from hqu] at hq
          unfold QuotR quoteV at hq
          clear hqu
          generalize 34 :: escL s = q at *
          generalize q ++ [34] = q2 at *
          simp only [Option.getD_some, Option.isSome_some, if_true] at hq
          go_wp2_with (first
            | (go_at_call 19; (with_reducible refine Calls.mono (hq.out _) ?_); rintro e w15 ⟨rfl, hb15⟩; have hB15 := Lib.hid (below_on hB11.out hb15); clear hb15)
            | (go_at_call 21; (with_reducible refine Calls.mono (num_any _ _) ?_); rintro e w16 ⟨rfl, hw16⟩; obtain rfl := hw16.symm)
            | (go_at_call 6; (with_reducible refine Calls.mono (works_any _ (hM'.out.below hB15.out)) ?_); rintro e w12 ⟨rfl, hb12⟩; have hB12 := Lib.hid (below_on hB15.out hb12); clear hb12))
          go_ret
          exact ⟨rfl, hB12.out⟩
set_option maxRecDepth 100000 in
theorem holds_near (s : List UInt8) (w : World) (hs : s.length ≤ 100) (hM : MaxT w) : Calls Tryd.prog 5 #[.string ⟨s.toArray⟩] w (BoolR true w) := by
  cases hv : valueL s with
  | true => exact holds_yes s w hs hM hv
  | false => exact holds_no s w hs hM hv
set_option maxRecDepth 100000 in
theorem holds_far (s : List UInt8) (w : World) (h : ¬ s.length ≤ 100) (hM : MaxT w) : Calls Tryd.prog 5 #[.string ⟨s.toArray⟩] w (BoolR true w) := by
  unfold BoolR
  have hw := Lib.hid (works_any w hM)
  unfold BoolR at hw
  clear hM
  have hsI : (100 : Int) < (s.length : Int) := by omega
  clear h
  go_enter Tryd.func5, Tryd.ntmps5
  go_wp2_with (go_at_call 6; (with_reducible refine Calls.mono hw.out ?_); rintro e w1 ⟨rfl, hb1⟩)
  go_ret
  exact ⟨rfl, hb1⟩
end Go.Proofs.YthnmphnolgmfhaaDoor
