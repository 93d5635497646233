import Derived.Test.YtbmemkbfignlaaaGreatDoorPk2
import Derived.Test.YtbmemkbfignlaaaGreatDoorPk26
namespace Go.Proofs.YtbmemkbfignlaaaGreatDoor
open Go.RowKit
attribute [local go_sem] Oper.semAt_some class_at0 class_at1 class_at2

/-! ## The document's quoted texts -/
set_option maxRecDepth 100000 in
set_option maxHeartbeats 4000000 in
theorem refQuoted_any (s : List UInt8) (w : World) (hs : s.length ≤ 1000000) : Calls Tryz.prog 175 #[.string ⟨s.toArray⟩] w (QuotR (quotedL s) w) := by
  unfold QuotR
  by_cases h2 : s.length < 2
  · have hn : quotedL s = none := by
      match s, h2 with
      | [], _ => rfl
      | [b], _ =>
        unfold quotedL
        split
        · rename_i r h; injection h with _ h; subst h; rfl
        · rfl
    have h2I : (s.length : Int) < 2 := by omega
    rw [hn]
    clear hn
    go_enter Tryz.func175, Tryz.ntmps175
    go_wp2
    go_ret2
    exact ⟨rfl, Below.refl _ _⟩
  · have h2I : ¬ (s.length : Int) < 2 := by omega
    have h0 : 0 < s.length := by omega
    by_cases hq : s[0] = 34
    · have e0 : ((((⟨s.toArray⟩ : ByteArray)[0]'h0).toNat : Int) == 34) = true := by rw [byE s 0 h0, hq]; rfl
      obtain ⟨r, hr⟩ : ∃ r, s.drop 1 = r := ⟨_, rfl⟩
      have hql : quotedL s = goesL [] r := by
        have e := drop_at s h0
        rw [List.drop_zero, hq, hr] at e
        rw [e]
        show quoteL r = (quoteL r).map _
        cases quoteL r <;> rfl
      rw [hql]
      clear hql
      go_enter Tryz.func175, Tryz.ntmps175
      go_wp2
      go_loopw [4, 5] (fun v x W => ∃ (done : List UInt8) (i : Nat), 1 ≤ i ∧ i ≤ s.length ∧ x = .int .i64 (i : Int) ∧ Bs W w.heap.size v done ∧ goesL [] r = goesL done (s.drop i) ∧ done.length ≤ i ∧ Below w.heap.size w W) (fun _ x _ => s.length - (intOf x).toNat)
      case atStart => exact ⟨[], 1, Nat.le_refl _, by omega, rfl, bs_nil _ _, by rw [hr], by simp, Below.refl _ _⟩
      case round =>
        obtain ⟨done, i, hi1, hil, rfl, hbs, hgo, hdl, hb⟩ := hrel
        clear hr e0 hq
        have hb' := Lib.hid hb
        have hz3 := hb.size
        obtain ⟨Av, cv, hv, hrdv⟩ := hbs.shape
        subst hv
        have hbs' := Lib.hid hbs
        have hcv := Lib.hid (hrdv.text (P := Tryz.prog) 86 9 5 cv Tryz.underlying86 Tryz.underlying5 Tryz.underlying9)
        clear hbs hb hrdv
        by_cases hlt : i < s.length
        · have hltI : (i : Int) < (s.length : Int) := by omega
          rw [drop_at s hlt] at hgo
          have hbo := Lib.hid (fun W => show Calls Tryz.prog 62 #[.int .u8 (((⟨s.toArray⟩ : ByteArray)[i]'hlt).toNat : Int)] W fun e w' => e = .returned (.bool (valB s[i])) ∧ w' = W from byteOf_ref s[i] W)
          by_cases h34 : s[i] = 34
          · have e34 : ((((⟨s.toArray⟩ : ByteArray)[i]'hlt).toNat : Int) == 34) = true := by rw [byE s i hlt, h34]; rfl
            rw [h34] at hgo
            by_cases hend : i + 1 < s.length
            · have hI : (i : Int) < (s.length : Int) - 1 := by omega
              have hgo' := Lib.hid (show goesL [] r = none by
                rw [hgo]; unfold goesL; rw [quoteL_end, if_neg]; rfl
                intro e; have := congrArg List.length e; simp at this; omega)
              clear hgo hcv
              go_wp2
              go_ret2
              exact ⟨by rw [hgo'.out]; rfl, hb'.out⟩
            · have hI : ¬ (i : Int) < (s.length : Int) - 1 := by omega
              have hgo' := Lib.hid (show goesL [] r = some done by
                rw [hgo]; unfold goesL; rw [quoteL_end, if_pos (List.drop_of_length_le (by omega))]; simp)
              have hcv' := hcv.out
              clear hgo hcv
              go_wp2
              go_ret2
              exact ⟨by rw [hgo'.out]; rfl, hb'.out⟩
          · have e34 : ((((⟨s.toArray⟩ : ByteArray)[i]'hlt).toNat : Int) == 34) = false := by
              rw [byE s i hlt, beq_eq_false_iff_ne]
              intro e
              exact h34 (UInt8.toNat_inj.1 (by have : (34 : UInt8).toNat = 34 := rfl; omega))
            clear hcv
            by_cases h92 : s[i] = 92
            · have e92 : ((((⟨s.toArray⟩ : ByteArray)[i]'hlt).toNat : Int) == 92) = true := by rw [byE s i hlt, h92]; rfl
              rw [h92] at hgo
              clear hbo
              by_cases hend : i + 1 < s.length
              · have hI : ¬ (s.length : Int) ≤ ((i + 1 : Nat) : Int) := by omega
                have hI2 : (i : Int) + 1 < (s.length : Int) := by omega
                have hbo := Lib.hid (fun W => show Calls Tryz.prog 62 #[.int .u8 (((⟨s.toArray⟩ : ByteArray)[i + 1]'hend).toNat : Int)] W fun e w' => e = .returned (.bool (valB s[i + 1])) ∧ w' = W from byteOf_ref s[i + 1] W)
                rw [drop_at s hend] at hgo
                have hql := quoteL_esc2 s[i + 1] (s.drop (i + 1 + 1))
                cases hv : valB s[i + 1] with
                | false =>
                  have hgo' := Lib.hid (show goesL [] r = none by rw [hgo]; exact (goesL_step hql).2 hv)
                  rw [hv] at hbo
                  clear hgo hv hql
                  go_wp2_with (go_at_call 62; (with_reducible refine Calls.mono (hbo.out _) ?_); rintro e w7 ⟨rfl, hw7⟩; obtain rfl := hw7.symm)
                  go_ret2
                  exact ⟨by rw [hgo'.out]; rfl, hb'.out⟩
                | true =>
                  have hgo' := Lib.hid (show goesL [] r = goesL (done ++ [s[i + 1]]) (s.drop (i + 1 + 1)) by rw [hgo]; exact (goesL_step hql).1 hv)
                  rw [hv] at hbo
                  clear hgo hv hql
                  go_wp2_with (first | (go_at_call 62; (with_reducible refine Calls.mono (hbo.out _) ?_); rintro e w7 ⟨rfl, hw7⟩; obtain rfl := hw7.symm) | (at_builtin; refine wpList_append_rd rfl _ _ rfl rfl (hbs'.out.below ((Below.refl wr.heap.size wr).alloc (Nat.le_refl _) (.cells #[.int .u8 ((s[i + 1]).toNat : Int)] 5))) (· = wr.heap.size) (some ⟨wr.heap.size, 0, none⟩) [s[i + 1]] 1 1 rfl rfl (Has.rd (t := 5) (Has.new wr _ _)) (by simp; omega) (by simp; omega) ?_; intro v8 w8 ho8 hg8; have ho8' := Lib.hid ho8; have hg8' := Lib.hid hg8; clear ho8 hg8))
                  have al := (Below.refl wr.heap.size wr).alloc (Nat.le_refl _) (.cells #[.int .u8 ((s[i + 1]).toNat : Int)] 5)
                  have hbsA := hbs'.out.below al
                  have hB := (hb'.out.trans (al.mono hz3)).grown hg8'.out (by simp; omega) (fun g e => (hbsA.own g e).1)
                  exact ⟨⟨done ++ [s[i + 1]], i + 1 + 1, by omega, by omega, by go_num, ho8'.out, hgo'.out, by rw [List.length_append, List.length_singleton]; omega, hB⟩, by simp [intOf]; omega⟩
              · have hI : (s.length : Int) ≤ (i : Int) + 1 := by omega
                have hgo' := Lib.hid (show goesL [] r = none by
                  rw [hgo, List.drop_of_length_le (by omega : s.length ≤ i + 1)]; unfold goesL; rw [quoteL_esc1]; rfl)
                clear hgo
                go_wp2
                go_ret2
                exact ⟨by rw [hgo'.out]; rfl, hb'.out⟩
            · have e92 : ((((⟨s.toArray⟩ : ByteArray)[i]'hlt).toNat : Int) == 92) = false := by
                rw [byE s i hlt, beq_eq_false_iff_ne]
                intro e
                exact h92 (UInt8.toNat_inj.1 (by have : (92 : UInt8).toNat = 92 := rfl; omega))
              have hql := quoteL_else (s.drop (i + 1)) h34 h92
              cases hv : valB s[i] with
              | false =>
                have hgo' := Lib.hid (show goesL [] r = none by rw [hgo]; exact (goesL_step hql).2 hv)
                rw [hv] at hbo
                clear hgo hv hql
                go_wp2_with (go_at_call 62; (with_reducible refine Calls.mono (hbo.out _) ?_); rintro e w7 ⟨rfl, hw7⟩; obtain rfl := hw7.symm)
                go_ret2
                exact ⟨by rw [hgo'.out]; rfl, hb'.out⟩
              | true =>
                have hgo' := Lib.hid (show goesL [] r = goesL (done ++ [s[i]]) (s.drop (i + 1)) by rw [hgo]; exact (goesL_step hql).1 hv)
                rw [hv] at hbo
                clear hgo hv hql
                go_wp2_with (first | (go_at_call 62; (with_reducible refine Calls.mono (hbo.out _) ?_); rintro e w7 ⟨rfl, hw7⟩; obtain rfl := hw7.symm) | (at_builtin; refine wpList_append_rd rfl _ _ rfl rfl (hbs'.out.below ((Below.refl wr.heap.size wr).alloc (Nat.le_refl _) (.cells #[.int .u8 ((s[i]).toNat : Int)] 5))) (· = wr.heap.size) (some ⟨wr.heap.size, 0, none⟩) [s[i]] 1 1 rfl rfl (Has.rd (t := 5) (Has.new wr _ _)) (by simp; omega) (by simp; omega) ?_; intro v8 w8 ho8 hg8; have ho8' := Lib.hid ho8; have hg8' := Lib.hid hg8; clear ho8 hg8))
                have al := (Below.refl wr.heap.size wr).alloc (Nat.le_refl _) (.cells #[.int .u8 ((s[i]).toNat : Int)] 5)
                have hbsA := hbs'.out.below al
                have hB := (hb'.out.trans (al.mono hz3)).grown hg8'.out (by simp; omega) (fun g e => (hbsA.own g e).1)
                exact ⟨⟨done ++ [s[i]], i + 1, by omega, by omega, by go_num, ho8'.out, hgo'.out, by rw [List.length_append, List.length_singleton]; omega, hB⟩, by simp [intOf]; omega⟩
        · obtain rfl : i = s.length := by omega
          have hgo' := Lib.hid (show goesL [] r = none by rw [hgo, List.drop_of_length_le (Nat.le_refl _)]; rfl)
          clear hgo hcv
          go_wp2
          go_ret2
          exact ⟨by rw [hgo'.out]; rfl, hb'.out⟩
    · have e0 : ((((⟨s.toArray⟩ : ByteArray)[0]'h0).toNat : Int) == 34) = false := by
        rw [byE s 0 h0, beq_eq_false_iff_ne]
        intro e
        exact hq (UInt8.toNat_inj.1 (by have : (34 : UInt8).toNat = 34 := rfl; omega))
      have hn : quotedL s = none := by
        unfold quotedL
        split
        · exact absurd rfl hq
        · rfl
      rw [hn]
      clear hn
      go_enter Tryz.func175, Tryz.ntmps175
      go_wp2
      go_ret2
      exact ⟨rfl, Below.refl _ _⟩
end Go.Proofs.YtbmemkbfignlaaaGreatDoor

namespace Go.Proofs.YtbmemkbfignlaaaGreatDoor
open Go.RowKit
attribute [local go_sem] Oper.semAt_some class_at0 class_at1 class_at2

/-! ## A byte and what it takes with it -/
def stepS (b : UInt8) (r : List UInt8) (q : Bool) : List UInt8 × Bool := if b = 34 then (r, !q) else if b = 92 ∧ q = true then (r.drop 1, q) else (r, q)
def StepR (k : Nat) (b : UInt8) (r : List UInt8) (q : Bool) (w : World) (e : Ending) (w' : World) : Prop := e = .returned (.tuple #[.int .u8 (b.toNat : Int), .bool q, .bool true]) ∧ RdAt w' k (stepS b r q).1 (stepS b r q).2 ∧ Only k w w'
theorem beq8 (b c : UInt8) : ((b.toNat : Int) == (c.toNat : Int)) = decide (b = c) := by
  by_cases h : b = c
  · subst h; simp
  · have : ¬ (b.toNat : Int) = (c.toNat : Int) := fun e => h (UInt8.toNat_inj.1 (by omega))
    simp [h, this]
theorem step_none (k : Nat) (q : Bool) (w : World) (hk : RdAt w k [] q) : Calls Tryz.prog 233 #[.pointer (some ⟨k, 0, none⟩)] w fun e w' => e = .returned (.tuple #[.int .u8 0, .bool q, .bool false]) ∧ w' = w := by
  have hnx := Lib.hid (next_no k q w hk)
  obtain ⟨-, c1, -, -⟩ := hk.facts
  clear hk
  go_enter Tryz.func233, Tryz.ntmps233
  go_wp2_with (go_at_call 235; (with_reducible refine Calls.mono hnx.out ?_); rintro e w1 ⟨rfl, hw1⟩; obtain rfl := hw1.symm)
  go_ret3
  exact ⟨rfl, rfl⟩
set_option maxHeartbeats 1000000 in
theorem step_any (k : Nat) (b : UInt8) (r : List UInt8) (q : Bool) (w : World) (hk : RdAt w k (b :: r) q) : Calls Tryz.prog 233 #[.pointer (some ⟨k, 0, none⟩)] w (StepR k b r q w) := by
  unfold StepR
  have hnx := Lib.hid (next_yes k b r q w hk)
  obtain ⟨-, c1, -, -⟩ := hk.facts
  have hk' := Lib.hid hk
  clear hk
  have e34 := beq8 b 34
  have e92 := beq8 b 92
  rw [show (((34 : UInt8).toNat : Nat) : Int) = 34 from rfl] at e34
  rw [show (((92 : UInt8).toNat : Nat) : Int) = 92 from rfl] at e92
  by_cases h34 : b = 34
  · have hs : stepS b r q = (r, !q) := by unfold stepS; rw [if_pos h34]
    rw [hs]
    rw [decide_eq_true h34] at e34
    clear h34 hs e92
    generalize (b.toNat : Int) = x at *
    go_enter Tryz.func233, Tryz.ntmps233
    go_wp2_with (go_at_call 235; (with_reducible refine Calls.mono (hnx.out) ?_); rintro e w1 ⟨rfl, hw1⟩; have hk1 := (show RdAt w1 k r q by rw [hw1]; exact hk'.out.take r); have ho1 := Lib.hid (show Only k w w1 by rw [hw1]; exact only_setCell _ _ _ _); obtain ⟨d0, d1, g0, g1⟩ := hk1.facts; have hk1' := Lib.hid hk1; clear hw1 hk1)
    go_ret3
    exact ⟨rfl, hk1'.out.in (!q), ho1.out.trans (only_setCell _ _ _ _)⟩
  · rw [decide_eq_false h34] at e34
    by_cases h92 : b = 92
    · rw [decide_eq_true h92] at e92
      cases q with
      | true =>
        have hs : stepS b r true = (r.drop 1, true) := by unfold stepS; rw [if_neg h34, if_pos ⟨h92, rfl⟩]
        rw [hs]
        clear h34 h92 hs
        generalize (b.toNat : Int) = x at *
        cases r with
        | nil =>
          go_enter Tryz.func233, Tryz.ntmps233
          go_wp2_with (first | (go_at_call 235; (with_reducible refine Calls.mono (hnx.out) ?_); rintro e w1 ⟨rfl, hw1⟩; have hk1 := (show RdAt w1 k [] true by rw [hw1]; exact hk'.out.take []); have ho1 := Lib.hid (show Only k w w1 by rw [hw1]; exact only_setCell _ _ _ _); obtain ⟨d0, d1, g0, g1⟩ := hk1.facts; have hk1' := Lib.hid hk1; clear hw1 hk1) | (go_at_call 235; (with_reducible refine Calls.mono (next_no k true _ hk1'.out) ?_); rintro e w2 ⟨rfl, hw2⟩; obtain rfl := hw2.symm))
          go_ret3
          exact ⟨rfl, hk1'.out, ho1.out⟩
        | cons c v =>
          go_enter Tryz.func233, Tryz.ntmps233
          go_wp2_with (first | (go_at_call 235; (with_reducible refine Calls.mono (hnx.out) ?_); rintro e w1 ⟨rfl, hw1⟩; have hk1 := (show RdAt w1 k (c :: v) true by rw [hw1]; exact hk'.out.take (c :: v)); have ho1 := Lib.hid (show Only k w w1 by rw [hw1]; exact only_setCell _ _ _ _); obtain ⟨d0, d1, g0, g1⟩ := hk1.facts; have hk1' := Lib.hid hk1; clear hw1 hk1) | (go_at_call 235; (with_reducible refine Calls.mono (next_yes k c v true _ hk1'.out) ?_); rintro e w2 ⟨rfl, hw2⟩; have hk2 := Lib.hid (show RdAt w2 k v true by rw [hw2]; exact hk1'.out.take v); have ho2 := Lib.hid (show Only k w w2 by rw [hw2]; exact ho1.out.trans (only_setCell _ _ _ _)); clear hw2))
          go_ret3
          exact ⟨rfl, hk2.out, ho2.out⟩
      | false =>
        have hs : stepS b r false = (r, false) := by unfold stepS; rw [if_neg h34, if_neg (fun h => by cases h.2)]
        rw [hs]
        clear h34 h92 hs
        generalize (b.toNat : Int) = x at *
        go_enter Tryz.func233, Tryz.ntmps233
        go_wp2_with (go_at_call 235; (with_reducible refine Calls.mono (hnx.out) ?_); rintro e w1 ⟨rfl, hw1⟩; have hk1 := (show RdAt w1 k r false by rw [hw1]; exact hk'.out.take r); have ho1 := Lib.hid (show Only k w w1 by rw [hw1]; exact only_setCell _ _ _ _); obtain ⟨d0, d1, g0, g1⟩ := hk1.facts; have hk1' := Lib.hid hk1; clear hw1 hk1)
        go_ret3
        exact ⟨rfl, hk1'.out, ho1.out⟩
    · rw [decide_eq_false h92] at e92
      have hs : stepS b r q = (r, q) := by unfold stepS; rw [if_neg h34, if_neg (fun h => h92 h.1)]
      rw [hs]
      clear h34 h92 hs
      generalize (b.toNat : Int) = x at *
      go_enter Tryz.func233, Tryz.ntmps233
      go_wp2_with (go_at_call 235; (with_reducible refine Calls.mono (hnx.out) ?_); rintro e w1 ⟨rfl, hw1⟩; have hk1 := (show RdAt w1 k r q by rw [hw1]; exact hk'.out.take r); have ho1 := Lib.hid (show Only k w w1 by rw [hw1]; exact only_setCell _ _ _ _); obtain ⟨d0, d1, g0, g1⟩ := hk1.facts; have hk1' := Lib.hid hk1; clear hw1 hk1)
      go_ret3
      exact ⟨rfl, hk1'.out, ho1.out⟩
/-! ## Up to a byte that is in no quoted text -/
/-- What is behind it. -/
def findL (c : UInt8) : List UInt8 → Bool → Option (List UInt8)
  | [], _ => none
  | b :: r, q => if b = c ∧ q = false then some r else if b = 34 then findL c r (!q) else if b = 92 ∧ q = true then (match r with
    | [] => none
    | _ :: v => findL c v q) else findL c r q
theorem findL_cons (c b : UInt8) (r : List UInt8) (q : Bool) : findL c (b :: r) q = if b = c ∧ q = false then some r else if b = 34 then findL c r (!q) else if b = 92 ∧ q = true then (match r with
    | [] => none
    | _ :: v => findL c v q) else findL c r q := by
  cases r <;> simp only [findL]
theorem findL_yes {c b : UInt8} (r : List UInt8) {q : Bool} (h : b = c ∧ q = false) : findL c (b :: r) q = some r := by
  rw [findL_cons, if_pos h]
theorem findL_no {c b : UInt8} (r : List UInt8) {q : Bool} (h : ¬ (b = c ∧ q = false)) : findL c (b :: r) q = findL c (stepS b r q).1 (stepS b r q).2 := by
  rw [findL_cons, if_neg h]
  unfold stepS
  by_cases h34 : b = 34
  · rw [if_pos h34, if_pos h34]
  · rw [if_neg h34, if_neg h34]
    by_cases h92 : b = 92 ∧ q = true
    · rw [if_pos h92, if_pos h92]
      cases r with
      | nil => rfl
      | cons _ v => rfl
    · rw [if_neg h92, if_neg h92]
theorem stepS_len (b : UInt8) (r : List UInt8) (q : Bool) : (stepS b r q).1.length ≤ r.length := by
  unfold stepS
  split
  · exact Nat.le_refl _
  · split
    · simp
    · exact Nat.le_refl _
/-- What stands ahead of it. -/
def aheadL (c : UInt8) (t : List UInt8) (q : Bool) : List UInt8 := match findL c t q with
  | none => t
  | some r => t.take (t.length - r.length - 1)
def PartR (k : Nat) (c : UInt8) (t : List UInt8) (q : Bool) (w : World) (e : Ending) (w' : World) : Prop :=
  Only k w w' ∧ e = .returned (.tuple #[.string ⟨(aheadL c t q).toArray⟩, .bool (findL c t q).isSome]) ∧ ∃ t' q', RdAt w' k t' q' ∧ t'.length ≤ t.length ∧ ((findL c t q).isSome = true → t'.length < t.length)
set_option maxRecDepth 100000 in
set_option maxHeartbeats 2000000 in
theorem part_any (k : Nat) (c : UInt8) (t : List UInt8) (q : Bool) (w : World) (hk : RdAt w k t q) (ht : t.length ≤ 1000000) : Calls Tryz.prog 229 #[.pointer (some ⟨k, 0, none⟩), .int .u8 (c.toNat : Int)] w (PartR k c t q w) := by
  unfold PartR
  obtain ⟨c0, -, -, -⟩ := hk.facts
  have hk' := Lib.hid hk
  clear hk
  go_enter Tryz.func229, Tryz.ntmps229
  go_wp2
  go_loopw [] (fun W => ∃ u p, RdAt W k u p ∧ u.length ≤ t.length ∧ findL c t q = findL c u p ∧ Only k w W) (fun W => leftN W k)
  case atStart => exact ⟨t, q, hk'.out, Nat.le_refl _, rfl, Only.refl _ _⟩
  case round =>
    obtain ⟨u, p, hrd, hul, hf, ho⟩ := hrel
    clear c0
    have ho' := Lib.hid ho
    have hleft := Lib.hid hrd.left
    cases u with
    | nil =>
      have hst := Lib.hid (step_none k p wr hrd)
      have hf' := Lib.hid (show findL c t q = none by rw [hf]; rfl)
      have hrd' := Lib.hid hrd
      clear hf hrd ho
      go_wp2_with (go_at_call 233; (with_reducible refine Calls.mono hst.out ?_); rintro e w2 ⟨rfl, hw2⟩; obtain rfl := hw2.symm)
      go_ret2
      refine ⟨ho'.out, ?_, [], p, hrd'.out, Nat.zero_le _, fun h => ?_⟩
      · unfold aheadL; rw [hf'.out]; rfl
      · rw [hf'.out] at h; cases h
    | cons b r =>
      have hst := Lib.hid (step_any k b r p wr hrd)
      have hbc := beq8 b c
      have hsl := stepS_len b r p
      have hul2 : r.length + 1 ≤ t.length := by simpa using hul
      unfold StepR at hst
      by_cases hc : b = c ∧ p = false
      · have hf' := Lib.hid (show findL c t q = some r by rw [hf]; exact findL_yes r hc)
        obtain ⟨hc1, rfl⟩ := hc
        rw [decide_eq_true hc1] at hbc
        have hs1 : (stepS b r false).1 = r := by unfold stepS; split <;> simp
        rw [hs1] at hst
        generalize (stepS b r false).2 = q2 at *
        have hx := cut_str t 0 (t.length - r.length - 1)
        rw [List.drop_zero] at hx
        have hx' := Lib.hid hx
        clear hf hrd ho hsl hs1 hc1 hx
        generalize (b.toNat : Int) = x at *
        go_wp2_with (go_at_call 233; (with_reducible refine Calls.mono hst.out ?_); rintro e w2 ⟨rfl, hrd2, ho2⟩; have hrd2' := Lib.hid hrd2; have ho2' := Lib.hid (ho'.out.trans ho2); have d0 := hrd2.facts.1; clear hrd2 ho2)
        go_ret2
        refine ⟨ho2'.out, ?_, r, q2, hrd2'.out, by omega, fun _ => by omega⟩
        unfold aheadL
        rw [hf'.out]
        simp only
        rw [← hx'.out]
        rfl
      · have hf' := Lib.hid (show findL c t q = findL c (stepS b r p).1 (stepS b r p).2 by rw [hf]; exact findL_no r hc)
        have hor : (b ≠ c) ∨ (b = c ∧ p = true) := by
          by_cases h : b = c
          · exact .inr ⟨h, by cases p with
              | true => rfl
              | false => exact absurd ⟨h, rfl⟩ hc⟩
          · exact .inl h
        have hl2 := Lib.hid (show (stepS b r p).1.length < (b :: r).length by simp; omega)
        clear hf hrd ho hc
        generalize (stepS b r p).1 = u2 at *
        generalize (stepS b r p).2 = q2 at *
        generalize b :: r = u at *
        rcases hor with h | ⟨h, rfl⟩
        · rw [decide_eq_false h] at hbc
          clear h
          generalize (b.toNat : Int) = x at *
          go_wp2_with (go_at_call 233; (with_reducible refine Calls.mono hst.out ?_); rintro e w2 ⟨rfl, hrd2, ho2⟩; have hrd2' := Lib.hid hrd2; have ho2' := Lib.hid (ho'.out.trans ho2); have d0 := hrd2.facts.1; clear hrd2 ho2)
          exact ⟨⟨u2, q2, hrd2'.out, by have := hl2.out; omega, hf'.out, ho2'.out⟩, by rw [hrd2'.out.left, hleft.out]; exact hl2.out⟩
        · rw [decide_eq_true h] at hbc
          clear h
          generalize (b.toNat : Int) = x at *
          go_wp2_with (go_at_call 233; (with_reducible refine Calls.mono hst.out ?_); rintro e w2 ⟨rfl, hrd2, ho2⟩; have hrd2' := Lib.hid hrd2; have ho2' := Lib.hid (ho'.out.trans ho2); have d0 := hrd2.facts.1; clear hrd2 ho2)
          exact ⟨⟨u2, q2, hrd2'.out, by have := hl2.out; omega, hf'.out, ho2'.out⟩, by rw [hrd2'.out.left, hleft.out]; exact hl2.out⟩
end Go.Proofs.YtbmemkbfignlaaaGreatDoor

namespace Go.Proofs.YtbmemkbfignlaaaGreatDoor

/-! ## Ranges: mathematics -/
namespace Ac
def signs : List UInt8 := [33, 35, 36, 37, 38, 39, 42, 43, 45, 46, 94, 95, 96, 124, 126]
def tok (b : UInt8) : Bool := (97 ≤ b && b ≤ 122 || 65 ≤ b && b ≤ 90) || (48 ≤ b && b ≤ 57) || signs.contains b
def val (b : UInt8) : Bool := b == 9 || (32 ≤ b && b ≤ 126) || 128 ≤ b
def blk (b : UInt8) : Bool := b == 9 || b == 32
def low (b : UInt8) : UInt8 := if 65 ≤ b && b ≤ 90 then b + 32 else b
def token (s : List UInt8) : Bool := !s.isEmpty && s.all tok
def trimA (s : List UInt8) : List UInt8 := s.dropWhile blk
def trimZ (s : List UInt8) : List UInt8 := (s.reverse.dropWhile blk).reverse
def trim (s : List UInt8) : List UInt8 := trimZ (trimA s)
def value (s : List UInt8) : Bool := s.all val && trim s == s
def lower (s : List UInt8) : List UInt8 := s.map low
/-- What is behind the quote with which one begins. -/
def quoteT : List UInt8 → Option (List UInt8)
  | [] => none
  | 34 :: r => if r = [] then some [] else none
  | 92 :: r => match r with
    | [] => none
    | b :: r => if val b then (quoteT r).map (b :: ·) else none
  | b :: r => if val b then (quoteT r).map (b :: ·) else none
def quoted (s : List UInt8) : Option (List UInt8) := match s with
  | 34 :: r => quoteT r
  | _ => none
/-- Within a quoted text, or not, behind a text. -/
def st : Bool → List UInt8 → Bool
  | q, [] => q
  | true, 92 :: r => match r with
    | [] => true
    | _ :: v => st true v
  | q, b :: r => if b = 34 then st (!q) r else st q r
/-- What stands between bytes that are in no quoted text. -/
def consH (b : UInt8) : List (List UInt8) → List (List UInt8)
  | [] => [[b]]
  | p :: ps => (b :: p) :: ps
def sp (c : UInt8) : Bool → List UInt8 → List (List UInt8)
  | _, [] => [[]]
  | true, 92 :: r => match r with
    | [] => [[92]]
    | d :: v => consH 92 (consH d (sp c true v))
  | q, b :: r => if b = c ∧ q = false then [] :: sp c false r else consH b (sp c (if b = 34 then !q else q) r)
def thou (s : List UInt8) : Option Nat := match s with
  | [48] => some 0
  | [49] => some 1000
  | 48 :: 46 :: r => if r.length ≤ 3 ∧ r.all (fun b => 48 ≤ b && b ≤ 57) = true then some ((r ++ List.replicate (3 - r.length) 48).foldl (fun (n : Nat) (b : UInt8) => 10 * n + (b.toNat - 48)) 0) else none
  | 49 :: 46 :: r => if r.length ≤ 3 ∧ r.all (fun b => b == 48) = true then some 1000 else none
  | _ => none
/-- A parameter: its name and value. -/
def param (s : List UInt8) : Option (List UInt8 × List UInt8) :=
  if token (trim (s.takeWhile (· != 61))) = true then match s.dropWhile (· != 61) with
    | [] => some (lower (trim (s.takeWhile (· != 61))), [])
    | _ :: v => if token (trim v) = true then some (lower (trim (s.takeWhile (· != 61))), trim v) else (quoted (trim v)).map fun t => (lower (trim (s.takeWhile (· != 61))), t)
  else none
structure Rg where
  ty : List UInt8
  sub : List UInt8
  params : Nat
  quality : Nat
deriving DecidableEq
/-- What parameters say: how many ahead of the first q, its quality. -/
def pars : Nat → List (List UInt8) → Option (Nat × Nat)
  | k, [] => some (k, 1000)
  | k, p :: ps => if p = [] then pars k ps else match param p with
    | none => none
    | some (n, v) => if n = [113] then match thou v with
        | none => none
        | some q => if (ps.all fun p => p.isEmpty || (param p).isSome) = true then some (k, q) else none
      else pars (k + 1) ps
def one (t : List UInt8) : Option Rg := match (sp 59 false t).map trim with
  | [] => none
  | h :: ps => match h.dropWhile (· != 47) with
    | [] => none
    | _ :: u => if token (lower (h.takeWhile (· != 47))) = true ∧ token (lower u) = true ∧ ¬ (lower (h.takeWhile (· != 47)) = [42] ∧ lower u ≠ [42]) then
        (pars 0 ps).map fun x => ⟨lower (h.takeWhile (· != 47)), lower u, x.1, x.2⟩
      else none
def allO {α β : Type} (f : α → Option β) : List α → Option (List β)
  | [] => some []
  | x :: r => match f x, allO f r with
    | some y, some l => some (y :: l)
    | _, _ => none
def items (s : List UInt8) : List (List UInt8) := ((sp 44 false s).map trim).filter fun t => !t.isEmpty
/-- A list of ranges. -/
def list (s : List UInt8) : Option (List Rg) := if value s = true then allO one (items s) else none
def fits (r : Rg) (kind sub : List UInt8) : Nat :=
  if 0 < r.params then 0 else if r.ty = [42] ∧ r.sub = [42] then 1 else if r.ty = kind ∧ r.sub = [42] then 2 else if r.ty = kind ∧ r.sub = sub then 3 else 0
/-- The best one, of equal ones the first. -/
def best (kind sub : List UInt8) : Nat → Nat → List Rg → Nat
  | _, q, [] => q
  | n, q, r :: l => if n < fits r kind sub then best kind sub (fits r kind sub) r.quality l else best kind sub n q l
def quality (s kind sub : List UInt8) : Option Nat := (list s).map fun l => if l = [] then 1000 else best kind sub 0 0 l
def more : List UInt8 := [44, 42, 47, 42, 59, 113, 61, 48, 46, 49]

/-! ### What follows -/
theorem st_b92 (d : UInt8) (v : List UInt8) : st true (92 :: d :: v) = st true v := rfl
theorem st_step {q : Bool} {b : UInt8} (r : List UInt8) (h : ¬ (q = true ∧ b = 92)) : st q (b :: r) = st (if b = 34 then !q else q) r := by
  conv => lhs; unfold st
  split
  · rename_i e; cases e
  · rename_i e; injection e with e1 e2; exact absurd ⟨rfl, e1⟩ h
  · rename_i e1 e2; injection e2 with e2 e3; subst e2; subst e3
    split <;> rfl
theorem sp_step {c : UInt8} {q : Bool} {b : UInt8} (r : List UInt8) (h : ¬ (q = true ∧ b = 92)) : sp c q (b :: r) = if b = c ∧ q = false then [] :: sp c false r else consH b (sp c (if b = 34 then !q else q) r) := by
  conv => lhs; unfold sp
  split
  · rename_i e; cases e
  · rename_i e; injection e with e1 e2; exact absurd ⟨rfl, e1⟩ h
  · rename_i e1 e2; injection e2 with e2 e3; subst e2; subst e3
    rfl
/-- A text's shape, for what goes over it. -/
theorem goes {M : Bool → List UInt8 → Prop} (h0 : ∀ q, M q []) (h1 : M true [92]) (h2 : ∀ d v, M true v → M true (92 :: d :: v)) (h3 : ∀ q b r, ¬ (q = true ∧ b = 92) → M (if b = 34 then !q else q) r → M q (b :: r)) : ∀ (q : Bool) (s : List UInt8), M q s
  | q, [] => h0 q
  | q, b :: r => by
    by_cases h : q = true ∧ b = 92
    · obtain ⟨rfl, rfl⟩ := h
      cases r with
      | nil => exact h1
      | cons d v => exact h2 d v (goes h0 h1 h2 h3 true v)
    · exact h3 q b r h (goes h0 h1 h2 h3 _ r)
theorem sp_ne (c : UInt8) : ∀ q s, sp c q s ≠ [] := by
  have hc : ∀ b l, consH b l ≠ [] := by intro b l; cases l <;> simp [consH]
  refine goes (fun q => by simp [sp]) (by simp [sp]) (fun d v _ => hc _ _) (fun q b r h _ => ?_)
  rw [sp_step r h]
  split
  · simp
  · exact hc _ _
theorem st_append (b : List UInt8) : ∀ q a, st q a = false → st q (a ++ b) = st false b := by
  refine goes (fun q h => ?_) (fun h => ?_) (fun d v ih h => ?_) (fun q x r hn ih h => ?_)
  · have : q = false := h
    subst this; rfl
  · cases h
  · exact ih h
  · rw [st_step r hn] at h
    rw [List.cons_append, st_step _ hn]
    exact ih h
theorem sp_append {c : UInt8} (hc : c ≠ 34) (r : List UInt8) : ∀ q a, st q a = false → sp c q (a ++ c :: r) = sp c q a ++ sp c false r := by
  refine goes (fun q h => ?_) (fun h => ?_) (fun d v ih h => ?_) (fun q x s hn ih h => ?_)
  · have : q = false := h
    subst this
    rw [List.nil_append, sp_step _ (by simp), if_pos ⟨rfl, rfl⟩]
    rfl
  · cases h
  · show consH 92 (consH d (sp c true (v ++ c :: r))) = consH 92 (consH d (sp c true v)) ++ _
    rw [ih h]
    cases hs : sp c true v with
    | nil => exact absurd hs (sp_ne c true v)
    | cons p ps => rfl
  · rw [st_step s hn] at h
    rw [List.cons_append, sp_step _ hn, sp_step _ hn]
    split
    · rename_i hx
      obtain ⟨rfl, rfl⟩ := hx
      rw [if_neg hc] at ih h
      rw [ih h]; rfl
    · rw [ih h]
      cases hs : sp c (if x = 34 then !q else q) s with
      | nil => exact absurd hs (sp_ne c _ s)
      | cons p ps => rfl
theorem consH_len (b : UInt8) {n : Nat} {l : List (List UInt8)} (h : l.length ≤ n + 1) : (consH b l).length ≤ n + 1 := by
  cases l with
  | nil => simp [consH]
  | cons x xs => exact h
theorem sp_len {c : UInt8} (hc : c ≠ 34) : ∀ q s, (sp c q s).length ≤ s.length + 1 := by
  refine goes (fun q => by simp [sp]) (by simp [sp]) (fun d v ih => ?_) (fun q b r hn ih => ?_)
  · have := consH_len 92 (consH_len d ih)
    show (consH 92 (consH d (sp c true v))).length ≤ v.length + 1 + 1 + 1
    omega
  · rw [sp_step r hn]
    split
    · rename_i hx
      obtain ⟨rfl, rfl⟩ := hx
      rw [if_neg hc] at ih
      simp; omega
    · have := consH_len b ih
      simp; omega
/-- What stands between ends its quoted texts: so does the whole. -/
theorem st_parts {c : UInt8} (hc : c ≠ 34) : ∀ q s, (match sp c q s with | [] => True | h :: t => st q h = false → (∀ p ∈ t, st false p = false) → st q s = false) := by
  refine goes (fun q => ?_) ?_ (fun d v ih => ?_) (fun q x s hn ih => ?_)
  · simp [sp]
  · simp [sp]
  · show match consH 92 (consH d (sp c true v)) with | [] => True | h :: t => st true h = false → (∀ p ∈ t, st false p = false) → st true (92 :: d :: v) = false
    cases hs : sp c true v with
    | nil => exact absurd hs (sp_ne c true v)
    | cons p ps =>
      rw [hs] at ih
      exact ih
  · rw [sp_step _ hn]
    by_cases hx : x = c ∧ q = false
    · obtain ⟨rfl, rfl⟩ := hx
      rw [if_pos ⟨rfl, rfl⟩]
      rw [if_neg hc] at ih
      show st false [] = false → (∀ p ∈ sp x false s, st false p = false) → st false (x :: s) = false
      intro _ h2
      rw [st_step _ hn, if_neg hc]
      cases hs : sp x false s with
      | nil => exact absurd hs (sp_ne x false s)
      | cons p ps =>
        rw [hs] at ih h2
        exact ih (h2 p List.mem_cons_self) fun p' hp => h2 p' (List.mem_cons_of_mem _ hp)
    · rw [if_neg hx]
      cases hs : sp c (if x = 34 then !q else q) s with
      | nil => exact absurd hs (sp_ne c _ s)
      | cons p ps =>
        rw [hs] at ih
        show st q (x :: p) = false → (∀ p' ∈ ps, st false p' = false) → st q (x :: s) = false
        intro h1 h2
        rw [st_step p hn] at h1
        rw [st_step s hn]
        exact ih h1 h2
theorem st_plain {s : List UInt8} (h : ∀ b ∈ s, b ≠ 34) : st false s = false := by
  induction s with
  | nil => rfl
  | cons b r ih =>
    rw [st_step _ (by simp), if_neg (h b List.mem_cons_self)]
    exact ih fun x hx => h x (List.mem_cons_of_mem _ hx)
theorem st_plain_ahead {x : List UInt8} (r : List UInt8) (h : ∀ b ∈ x, b ≠ 34) : st false (x ++ r) = st false r := st_append r false x (st_plain h)
theorem blk_34 {b : UInt8} (h : blk b = true) : b ≠ 34 := by rintro rfl; exact absurd h (by decide)
theorem tok_34 {b : UInt8} (h : tok b = true) : b ≠ 34 := by rintro rfl; exact absurd h (by decide)
theorem low_34 {b : UInt8} (h : tok (low b) = true) : b ≠ 34 := by rintro rfl; exact absurd h (by decide)
theorem mem_takeWhile {p : UInt8 → Bool} : ∀ {s : List UInt8} {b : UInt8}, b ∈ s.takeWhile p → p b = true := by
  intro s
  induction s with
  | nil => intro b h; cases h
  | cons x r ih =>
    intro b h
    rw [List.takeWhile_cons] at h
    split at h
    · rename_i hx
      rcases List.mem_cons.1 h with rfl | h
      · exact hx
      · exact ih h
    · cases h
theorem trim_parts (s : List UInt8) : ∃ x y, s = x ++ (trim s ++ y) ∧ (∀ b ∈ x, blk b = true) ∧ (∀ b ∈ y, blk b = true) := by
  refine ⟨s.takeWhile blk, ((trimA s).reverse.takeWhile blk).reverse, ?_, fun b hb => mem_takeWhile hb, fun b hb => mem_takeWhile (List.mem_reverse.1 hb)⟩
  have e : trim s ++ ((trimA s).reverse.takeWhile blk).reverse = trimA s := by
    unfold trim trimZ
    rw [← List.reverse_append, List.takeWhile_append_dropWhile, List.reverse_reverse]
  rw [e]
  exact (List.takeWhile_append_dropWhile).symm
theorem st_trim {s : List UInt8} (h : st false (trim s) = false) : st false s = false := by
  obtain ⟨x, y, e, hx, hy⟩ := trim_parts s
  rw [e, st_plain_ahead _ fun b hb => blk_34 (hx b hb), st_append y _ _ h]
  exact st_plain fun b hb => blk_34 (hy b hb)
theorem st_quote : ∀ {s t : List UInt8}, quoteT s = some t → st true s = false
  | [], t, h => by simp [quoteT] at h
  | b :: r, t, h => by
    by_cases h34 : b = 34
    · subst h34
      simp only [quoteT] at h
      split at h
      · rename_i hr; subst hr; rfl
      · cases h
    · by_cases h92 : b = 92
      · subst h92
        cases r with
        | nil => simp [quoteT] at h
        | cons d v =>
          simp only [quoteT] at h
          split at h
          · cases hv : quoteT v with
            | none => rw [hv] at h; cases h
            | some u => exact (show st true v = false from st_quote hv)
          · cases h
      · rw [st_step r (fun e => h92 e.2), if_neg h34]
        have e : quoteT (b :: r) = if val b then (quoteT r).map (b :: ·) else none := by
          conv => lhs; unfold quoteT
          split
          · rename_i e; cases e
          · rename_i e; injection e with e _; exact absurd e h34
          · rename_i e; injection e with e _; exact absurd e h92
          · rename_i e; injection e with e1 e2; subst e1; subst e2; rfl
        rw [e] at h
        split at h
        · cases hv : quoteT r with
          | none => rw [hv] at h; cases h
          | some u => exact st_quote hv
        · cases h
theorem st_quoted {s t : List UInt8} (h : quoted s = some t) : st false s = false := by
  unfold quoted at h
  split at h
  · rename_i r
    rw [st_step r (by simp), if_pos rfl]
    exact st_quote h
  · cases h
theorem token_34 {s : List UInt8} (h : token s = true) : ∀ b ∈ s, b ≠ 34 := by
  unfold token at h
  rw [Bool.and_eq_true, List.all_eq_true] at h
  exact fun b hb => tok_34 (h.2 b hb)
theorem tokenlow_34 {s : List UInt8} (h : token (lower s) = true) : ∀ b ∈ s, b ≠ 34 := by
  unfold token lower at h
  rw [Bool.and_eq_true, List.all_eq_true] at h
  exact fun b hb => low_34 (h.2 _ (List.mem_map_of_mem hb))
theorem trim_34 {s : List UInt8} (h : ∀ b ∈ trim s, b ≠ 34) : ∀ b ∈ s, b ≠ 34 := by
  obtain ⟨x, y, e, hx, hy⟩ := trim_parts s
  intro b hb
  rw [e] at hb
  rcases List.mem_append.1 hb with hb | hb
  · exact blk_34 (hx b hb)
  · rcases List.mem_append.1 hb with hb | hb
    · exact h b hb
    · exact blk_34 (hy b hb)
theorem st_param {s : List UInt8} (h : (param s).isSome = true) : st false s = false := by
  unfold param at h
  split at h
  · rename_i hn
    have e := (List.takeWhile_append_dropWhile (p := (· != (61 : UInt8))) (l := s)).symm
    rw [e, st_plain_ahead _ (trim_34 (token_34 hn))]
    split at h
    · rename_i hd; rw [hd]; rfl
    · rename_i c v hd
      have hc : c = 61 := by
        have hne : s.dropWhile (· != (61 : UInt8)) ≠ [] := by rw [hd]; simp
        have := List.head_dropWhile_not (· != (61 : UInt8)) hne
        simp only [hd, List.head_cons] at this
        simpa using this
      subst hc
      rw [hd, st_step v (by simp), if_neg (by decide)]
      split at h
      · rename_i ht
        exact st_trim (st_plain (token_34 ht))
      · cases hq : quoted (trim v) with
        | none => rw [hq] at h; cases h
        | some t => exact st_trim (st_quoted hq)
  · cases h
theorem pars_closed : ∀ {ps : List (List UInt8)} {k : Nat} {x : Nat × Nat}, pars k ps = some x → ∀ p ∈ ps, st false p = false
  | [], _, _, _, p, hp => by cases hp
  | y :: ps, k, x, h, p, hp => by
    unfold pars at h
    split at h
    · rename_i hy
      rcases List.mem_cons.1 hp with rfl | hp
      · rw [hy]; rfl
      · exact pars_closed h p hp
    · cases hpar : param y with
      | none => rw [hpar] at h; cases h
      | some nv =>
        obtain ⟨n, v⟩ := nv
        rw [hpar] at h
        simp only at h
        rcases List.mem_cons.1 hp with rfl | hp
        · exact st_param (by rw [hpar]; rfl)
        · split at h
          · cases hth : thou v with
            | none => rw [hth] at h; cases h
            | some q =>
              rw [hth] at h
              simp only at h
              split at h
              · rename_i ha
                have := List.all_eq_true.1 ha p hp
                rcases Bool.or_eq_true _ _ ▸ this with he | he
                · rw [List.isEmpty_iff.1 he]; rfl
                · exact st_param he
              · cases h
          · exact pars_closed h p hp
theorem one_closed {t : List UInt8} {r : Rg} (h : one t = some r) : st false t = false := by
  unfold one at h
  cases hs : sp 59 false t with
  | nil => exact absurd hs (sp_ne _ _ _)
  | cons p ps =>
    have hp := st_parts (c := 59) (by decide) false t
    rw [hs] at h hp
    simp only [List.map_cons] at h
    split at h
    · cases h
    · rename_i c u hd
      split at h
      · rename_i ht
        cases hq : pars 0 (ps.map trim) with
        | none => rw [hq] at h; cases h
        | some x =>
          refine hp (st_trim ?_) fun p' hp' => st_trim (pars_closed hq _ (List.mem_map_of_mem hp'))
          have e := (List.takeWhile_append_dropWhile (p := (· != (47 : UInt8))) (l := trim p)).symm
          have hc : c = 47 := by
            have hne : (trim p).dropWhile (· != (47 : UInt8)) ≠ [] := by rw [hd]; simp
            have := List.head_dropWhile_not (· != (47 : UInt8)) hne
            simp only [hd, List.head_cons] at this
            simpa using this
          subst hc
          rw [e, hd, st_plain_ahead _ (tokenlow_34 ht.1), st_step u (by simp), if_neg (by decide)]
          exact st_plain (tokenlow_34 ht.2.1)
      · cases h
theorem allO_mem {α β : Type} {f : α → Option β} : ∀ {l : List α} {m : List β}, allO f l = some m → ∀ x ∈ l, (f x).isSome = true
  | [], _, _, x, hx => by cases hx
  | y :: l, m, h, x, hx => by
    unfold allO at h
    split at h
    · rename_i a b h1 h2
      rcases List.mem_cons.1 hx with rfl | hx
      · rw [h1]; rfl
      · exact allO_mem h2 x hx
    · cases h
theorem allO_append {α β : Type} {f : α → Option β} {x : α} {y : β} (hx : f x = some y) : ∀ {l : List α} {m : List β}, allO f l = some m → allO f (l ++ [x]) = some (m ++ [y])
  | [], m, h => by
    injection h with h
    subst h
    simp [allO, hx]
  | a :: l, m, h => by
    unfold allO at h
    split at h
    · rename_i b n h1 h2
      injection h with h
      subst h
      rw [List.cons_append]
      unfold allO
      rw [h1, allO_append hx h2]; rfl
    · cases h
theorem list_closed {s : List UInt8} {l : List Rg} (h : list s = some l) : st false s = false := by
  unfold list at h
  split at h
  · have hm := allO_mem h
    have hp := st_parts (c := 44) (by decide) false s
    cases hs : sp 44 false s with
    | nil => exact absurd hs (sp_ne _ _ _)
    | cons p ps =>
      rw [hs] at hp
      have hall : ∀ x ∈ p :: ps, st false x = false := by
        intro x hx
        refine st_trim ?_
        cases he : trim x with
        | nil => rfl
        | cons a b =>
          have hi : trim x ∈ items s := by
            unfold items
            rw [hs]
            exact List.mem_filter.2 ⟨List.mem_map_of_mem hx, by rw [he]; rfl⟩
          have := hm _ hi
          rw [← he]
          cases ho : one (trim x) with
          | none => rw [ho] at this; cases this
          | some r => exact one_closed ho
      exact hp (hall p List.mem_cons_self) fun x hx => hall x (List.mem_cons_of_mem _ hx)
  · cases h
theorem value_more {s : List UInt8} (h : value s = true) : value (s ++ more) = true := by
  unfold value at h ⊢
  rw [Bool.and_eq_true, beq_iff_eq] at h ⊢
  obtain ⟨h1, h2⟩ := h
  refine ⟨by rw [List.all_append, h1]; rfl, ?_⟩
  cases s with
  | nil => decide
  | cons b r =>
    have hb : blk b = false := by
      cases hb : blk b with
      | false => rfl
      | true =>
        exfalso
        have e : trimA (b :: r) = trimA r := by unfold trimA; rw [List.dropWhile_cons, if_pos hb]
        have hl : (trim (b :: r)).length ≤ r.length := by
          unfold trim
          rw [e]
          unfold trimZ trimA
          rw [List.length_reverse]
          exact Nat.le_trans ((List.dropWhile_suffix _).length_le) (by rw [List.length_reverse]; exact (List.dropWhile_suffix _).length_le)
        rw [h2] at hl
        simp at hl
        omega
    have e1 : trimA ((b :: r) ++ more) = (b :: r) ++ more := by unfold trimA; rw [List.cons_append, List.dropWhile_cons, if_neg (by simp [hb])]
    unfold trim
    rw [e1]
    unfold trimZ
    rw [List.reverse_append, show more.reverse = 49 :: [46, 48, 61, 113, 59, 42, 47, 42, 44] by decide, List.cons_append, List.dropWhile_cons, if_neg (by decide), ← List.cons_append, show (49 :: [46, 48, 61, 113, 59, 42, 47, 42, 44] : List UInt8) = more.reverse by decide, ← List.reverse_append, List.reverse_reverse]
theorem one_more : one [42, 47, 42, 59, 113, 61, 48, 46, 49] = some ⟨[42], [42], 0, 100⟩ := by decide +kernel
/-- A range more makes no other one less. -/
theorem list_more {s : List UInt8} {l : List Rg} (h : list s = some l) : list (s ++ more) = some (l ++ [⟨[42], [42], 0, 100⟩]) := by
  have hc := list_closed h
  unfold list at h ⊢
  split at h
  · rename_i hv
    rw [if_pos (value_more hv)]
    have e : items (s ++ more) = items s ++ [[42, 47, 42, 59, 113, 61, 48, 46, 49]] := by
      unfold items
      rw [show more = 44 :: [42, 47, 42, 59, 113, 61, 48, 46, 49] from rfl, sp_append (by decide) _ false s hc, List.map_append, List.filter_append]
      congr 1
    rw [e]
    exact allO_append one_more h
  · cases h
theorem digits_le : ∀ (l : List UInt8) (n : Nat), (∀ b ∈ l, b ≤ 57) → l.foldl (fun (n : Nat) (b : UInt8) => 10 * n + (b.toNat - 48)) n + 1 ≤ (n + 1) * 10 ^ l.length
  | [], n, _ => by simp
  | b :: l, n, h => by
    have hb : b.toNat ≤ 57 := UInt8.le_iff_toNat_le.1 (h b List.mem_cons_self)
    have := digits_le l (10 * n + (b.toNat - 48)) fun x hx => h x (List.mem_cons_of_mem _ hx)
    rw [List.foldl_cons, List.length_cons, Nat.pow_succ]
    refine Nat.le_trans this ?_
    rw [Nat.mul_comm (10 ^ l.length) 10, ← Nat.mul_assoc]
    exact Nat.mul_le_mul_right _ (by omega)
theorem thou_le {s : List UInt8} {n : Nat} (h : thou s = some n) : n ≤ 1000 := by
  unfold thou at h
  split at h
  · injection h with h; omega
  · injection h with h; omega
  · rename_i r
    split at h
    · rename_i hr
      obtain ⟨hr, ha⟩ := hr
      injection h with h
      have := digits_le (r ++ List.replicate (3 - r.length) 48) 0 (by
        intro b hb
        rcases List.mem_append.1 hb with hb | hb
        · have := List.all_eq_true.1 ha b hb
          rw [Bool.and_eq_true, decide_eq_true_iff, decide_eq_true_iff] at this
          exact this.2
        · rw [(List.mem_replicate.1 hb).2]; decide)
      rw [List.length_append, List.length_replicate, show r.length + (3 - r.length) = 3 by omega, h] at this
      omega
    · cases h
  · split at h
    · injection h with h; omega
    · cases h
  · cases h
theorem pars_le : ∀ {ps : List (List UInt8)} {k : Nat} {x : Nat × Nat}, pars k ps = some x → x.2 ≤ 1000
  | [], k, x, h => by
    injection h with h
    subst h
    exact Nat.le_refl _
  | y :: ps, k, x, h => by
    unfold pars at h
    split at h
    · exact pars_le h
    · split at h
      · cases h
      · split at h
        · split at h
          · cases h
          · rename_i q hq
            split at h
            · injection h with h
              subst h
              exact thou_le hq
            · cases h
        · exact pars_le h
theorem one_le {t : List UInt8} {r : Rg} (h : one t = some r) : r.quality ≤ 1000 := by
  unfold one at h
  split at h
  · cases h
  · split at h
    · cases h
    · split at h
      · rename_i ps _ _ _ _ _ _
        cases hq : pars 0 ps with
        | none => rw [hq] at h; cases h
        | some x =>
          rw [hq] at h
          injection h with h
          subst h
          exact pars_le hq
      · cases h
theorem allO_all {α β : Type} {f : α → Option β} {p : β → Prop} (hf : ∀ x y, f x = some y → p y) : ∀ {l : List α} {m : List β}, allO f l = some m → ∀ y ∈ m, p y
  | [], m, h, y, hy => by
    injection h with h
    subst h
    cases hy
  | a :: l, m, h, y, hy => by
    unfold allO at h
    split at h
    · rename_i b n h1 h2
      injection h with h
      subst h
      rcases List.mem_cons.1 hy with rfl | hy
      · exact hf _ _ h1
      · exact allO_all hf h2 y hy
    · cases h
/-- Qualities are from 0 to 1000. -/
theorem list_le {s : List UInt8} {l : List Rg} (h : list s = some l) : ∀ r ∈ l, r.quality ≤ 1000 := by
  unfold list at h
  split at h
  · exact allO_all (fun _ _ => one_le) h
  · cases h
theorem consH_mem (b : UInt8) {n : Nat} {l : List (List UInt8)} (h : ∀ p ∈ l, p.length ≤ n) : ∀ p ∈ consH b l, p.length ≤ n + 1 := by
  intro p hp
  cases l with
  | nil =>
    have : p = [b] := by simpa [consH] using hp
    subst this
    simp
  | cons x xs =>
    rcases List.mem_cons.1 (show p ∈ (b :: x) :: xs from hp) with rfl | hp
    · have := h x List.mem_cons_self
      simp; omega
    · have := h p (List.mem_cons_of_mem _ hp)
      omega
theorem sp_mem {c : UInt8} (hc : c ≠ 34) : ∀ q s, ∀ p ∈ sp c q s, p.length ≤ s.length := by
  refine goes (fun q p hp => ?_) (fun p hp => ?_) (fun d v ih p hp => ?_) (fun q b r hn ih p hp => ?_)
  · have : p = [] := by simpa [sp] using hp
    subst this; simp
  · have : p = [92] := by simpa [sp] using hp
    subst this; simp
  · exact consH_mem 92 (consH_mem d ih) p hp
  · rw [sp_step r hn] at hp
    split at hp
    · rename_i hx
      obtain ⟨rfl, rfl⟩ := hx
      rw [if_neg hc] at ih
      rcases List.mem_cons.1 hp with rfl | hp
      · simp
      · have := ih p hp
        simp; omega
    · exact consH_mem b ih p hp
theorem trim_len (s : List UInt8) : (trim s).length ≤ s.length := by
  obtain ⟨x, y, e, _, _⟩ := trim_parts s
  have := congrArg List.length e
  simp at this
  omega
end Ac
end Go.Proofs.YtbmemkbfignlaaaGreatDoor

namespace Go.Proofs.YtbmemkbfignlaaaGreatDoor

/-! ## Words' mathematics (layer 9) and ranges' (layer 12) are one -/
namespace Ac
theorem tok_eq : tok = tokB := rfl
theorem val_eq : val = valB := rfl
theorem blk_eq : blk = blkB := rfl
theorem low_eq : low = lowB := rfl
theorem token_eq (s : List UInt8) : token s = tokenL s := rfl
theorem trim_eq (s : List UInt8) : trim s = trimL s := rfl
theorem value_eq (s : List UInt8) : value s = valueL s := rfl
theorem lower_eq (s : List UInt8) : lower s = lowerL s := rfl
theorem quoteT_eq : ∀ s : List UInt8, quoteT s = quoteL s
  | [] => rfl
  | b :: r => by
    by_cases h34 : b = 34
    · subst h34; rfl
    · by_cases h92 : b = 92
      · subst h92
        cases r with
        | nil => rfl
        | cons d v =>
          simp only [quoteT, quoteL, quoteT_eq v, val_eq]
      · have ih := quoteT_eq r
        have e1 : quoteT (b :: r) = if val b then (quoteT r).map (b :: ·) else none := by
          conv => lhs; unfold quoteT
          split
          · rename_i e; cases e
          · rename_i e; injection e with e _; exact absurd e h34
          · rename_i e; injection e with e _; exact absurd e h92
          · rename_i e; injection e with e1 e2; subst e1; subst e2; rfl
        have e2 : quoteL (b :: r) = if valB b then (quoteL r).map (b :: ·) else none := by
          conv => lhs; unfold quoteL
          split
          · rename_i e; cases e
          · rename_i e; injection e with e _; exact absurd e h34
          · rename_i e; injection e with e _; exact absurd e h92
          · rename_i e; injection e with e1 e2; subst e1; subst e2; rfl
        rw [e1, e2, ih, val_eq]
theorem quoted_eq (s : List UInt8) : quoted s = quotedL s := by
  cases s with
  | nil => rfl
  | cons b r =>
    by_cases h : b = 34
    · subst h; exact quoteT_eq r
    · unfold quoted quotedL
      split
      · rename_i e; injection e with e _; exact absurd e h
      · split
        · rename_i e; injection e with e _; exact absurd e h
        · rfl
/-- What stands between such bytes, as a reader finds it. -/
theorem sp_find (c : UInt8) : ∀ q s, (match findL c s q with | none => sp c q s = [s] | some r => sp c q s = s.take (s.length - r.length - 1) :: sp c false r ∧ r.length < s.length) := by
  refine goes (fun q => ?_) ?_ (fun d v ih => ?_) (fun q b r hn ih => ?_)
  · show sp c q [] = [[]]
    simp [sp]
  · rw [findL_cons, if_neg (by simp), if_neg (by decide), if_pos ⟨rfl, rfl⟩]
    simp [sp]
  · rw [findL_cons, if_neg (by simp), if_neg (by decide), if_pos ⟨rfl, rfl⟩]
    show match findL c v true with | none => consH 92 (consH d (sp c true v)) = [92 :: d :: v] | some r => consH 92 (consH d (sp c true v)) = (92 :: d :: v).take ((92 :: d :: v).length - r.length - 1) :: sp c false r ∧ r.length < (92 :: d :: v).length
    cases hf : findL c v true with
    | none =>
      rw [hf] at ih
      simp only at ih ⊢
      rw [ih]; rfl
    | some r =>
      rw [hf] at ih
      simp only at ih ⊢
      obtain ⟨h1, h2⟩ := ih
      rw [h1]
      refine ⟨?_, by simp; omega⟩
      rw [show (92 :: d :: v).length - r.length - 1 = (v.length - r.length - 1) + 1 + 1 by simp; omega]
      rfl
  · rw [sp_step r hn]
    by_cases hx : b = c ∧ q = false
    · rw [if_pos hx, findL_yes r hx]
      refine ⟨?_, by simp⟩
      rw [show (b :: r).length - r.length - 1 = 0 by simp]
      rfl
    · have e : findL c (b :: r) q = findL c r (if b = 34 then !q else q) := by
        rw [findL_no r hx]
        unfold stepS
        by_cases h34 : b = 34
        · rw [if_pos h34, if_pos h34]
        · rw [if_neg h34, if_neg h34, if_neg (fun h => hn ⟨h.2, h.1⟩)]
      rw [if_neg hx, e]
      cases hf : findL c r (if b = 34 then !q else q) with
      | none =>
        rw [hf] at ih
        simp only at ih ⊢
        rw [ih]; rfl
      | some u =>
        rw [hf] at ih
        simp only at ih ⊢
        obtain ⟨h1, h2⟩ := ih
        rw [h1]
        refine ⟨?_, by simp; omega⟩
        rw [show (b :: r).length - u.length - 1 = (r.length - u.length - 1) + 1 by simp; omega]
        rfl
theorem sp_none {c : UInt8} {q : Bool} {s : List UInt8} (h : findL c s q = none) : sp c q s = [aheadL c s q] := by
  have := sp_find c q s
  rw [h] at this
  unfold aheadL
  rw [h]
  exact this
theorem sp_some {c : UInt8} {q : Bool} {s r : List UInt8} (h : findL c s q = some r) : sp c q s = aheadL c s q :: sp c false r := by
  have := sp_find c q s
  rw [h] at this
  unfold aheadL
  rw [h]
  exact this.1
end Ac
end Go.Proofs.YtbmemkbfignlaaaGreatDoor
