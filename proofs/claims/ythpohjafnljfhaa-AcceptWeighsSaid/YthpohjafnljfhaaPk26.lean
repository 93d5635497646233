import Derived.Test.YthpohjafnljfhaaPk25
namespace Go.Proofs.Ythpohjafnljfhaa
open Go.RowKit
attribute [local go_sem] Oper.semAt_some class_at0 class_at1 class_at2

/-! ## A byte and what it takes with it -/
def stepS (b : UInt8) (r : List UInt8) (q : Bool) : List UInt8 × Bool := if b = 34 then (r, !q) else if b = 92 ∧ q = true then (r.drop 1, q) else (r, q)
def StepR (k : Nat) (b : UInt8) (r : List UInt8) (q : Bool) (w : World) (e : Ending) (w' : World) : Prop := e = .returned (.tuple #[.int .u8 (b.toNat : Int), .bool q, .bool true]) ∧ RdAt w' k (stepS b r q).1 (stepS b r q).2 ∧ Only k w w'
theorem beq8 (b c : UInt8) : ((b.toNat : Int) == (c.toNat : Int)) = decide (b = c) := by
  by_cases h : b = c
  · subst h; simp
  · have : ¬ (b.toNat : Int) = (c.toNat : Int) := fun e => h (UInt8.toNat_inj.1 (by omega))
    simp [h, this]
theorem step_none (k : Nat) (q : Bool) (w : World) (hk : RdAt w k [] q) : Calls Try.prog 62 #[.pointer (some ⟨k, 0, none⟩)] w fun e w' => e = .returned (.tuple #[.int .u8 0, .bool q, .bool false]) ∧ w' = w := by
  have hnx := Lib.hid (next_no k q w hk)
  obtain ⟨-, c1, -, -⟩ := hk.facts
  clear hk
  go_enter Try.func62, Try.ntmps62
  go_wp2_with (go_at_call 66; (with_reducible refine Calls.mono hnx.out ?_); rintro e w1 ⟨rfl, hw1⟩; obtain rfl := hw1.symm)
  go_ret3
  exact ⟨rfl, rfl⟩
set_option maxHeartbeats 1000000 in
theorem step_any (k : Nat) (b : UInt8) (r : List UInt8) (q : Bool) (w : World) (hk : RdAt w k (b :: r) q) : Calls Try.prog 62 #[.pointer (some ⟨k, 0, none⟩)] w (StepR k b r q w) := by
  unfold StepR
  have hnx := Lib.hid (next_yes k b r q w hk)
  obtain ⟨-, c1, -, -⟩ := hk.facts
  have hk' := Lib.hid hk
  clear hk
  have e34 := beq8 b 34
  have e92 := beq8 b 92
  rw [show (((34 : UInt8).toNat : Nat) : Int) = 34 from rfl] at e34
  rw [show (((92 : UInt8).toNat : Nat) : Int) = 92 from rfl] at e92
  by_cases h34 : b = 34
  · have hs : stepS b r q = (r, !q) := by unfold stepS; rw [if_pos h34]
    rw [hs]
    rw [decide_eq_true h34] at e34
    clear h34 hs e92
    generalize (b.toNat : Int) = x at *
    go_enter Try.func62, Try.ntmps62
    go_wp2_with (go_at_call 66; (with_reducible refine Calls.mono (hnx.out) ?_); rintro e w1 ⟨rfl, hw1⟩; have hk1 := (show RdAt w1 k r q by rw [hw1]; exact hk'.out.take r); have ho1 := Lib.hid (show Only k w w1 by rw [hw1]; exact only_setCell _ _ _ _); obtain ⟨d0, d1, g0, g1⟩ := hk1.facts; have hk1' := Lib.hid hk1; clear hw1 hk1)
    go_ret3
    exact ⟨rfl, hk1'.out.in (!q), ho1.out.trans (only_setCell _ _ _ _)⟩
  · rw [decide_eq_false h34] at e34
    by_cases h92 : b = 92
    · rw [decide_eq_true h92] at e92
      cases q with
      | true =>
        have hs : stepS b r true = (r.drop 1, true) := by unfold stepS; rw [if_neg h34, if_pos ⟨h92, rfl⟩]
        rw [hs]
        clear h34 h92 hs
        generalize (b.toNat : Int) = x at *
        cases r with
        | nil =>
          go_enter Try.func62, Try.ntmps62
          go_wp2_with (first | (go_at_call 66; (with_reducible refine Calls.mono (hnx.out) ?_); rintro e w1 ⟨rfl, hw1⟩; have hk1 := (show RdAt w1 k [] true by rw [hw1]; exact hk'.out.take []); have ho1 := Lib.hid (show Only k w w1 by rw [hw1]; exact only_setCell _ _ _ _); obtain ⟨d0, d1, g0, g1⟩ := hk1.facts; have hk1' := Lib.hid hk1; clear hw1 hk1) | (go_at_call 66; (with_reducible refine Calls.mono (next_no k true _ hk1'.out) ?_); rintro e w2 ⟨rfl, hw2⟩; obtain rfl := hw2.symm))
          go_ret3
          exact ⟨rfl, hk1'.out, ho1.out⟩
        | cons c v =>
          go_enter Try.func62, Try.ntmps62
          go_wp2_with (first | (go_at_call 66; (with_reducible refine Calls.mono (hnx.out) ?_); rintro e w1 ⟨rfl, hw1⟩; have hk1 := (show RdAt w1 k (c :: v) true by rw [hw1]; exact hk'.out.take (c :: v)); have ho1 := Lib.hid (show Only k w w1 by rw [hw1]; exact only_setCell _ _ _ _); obtain ⟨d0, d1, g0, g1⟩ := hk1.facts; have hk1' := Lib.hid hk1; clear hw1 hk1) | (go_at_call 66; (with_reducible refine Calls.mono (next_yes k c v true _ hk1'.out) ?_); rintro e w2 ⟨rfl, hw2⟩; have hk2 := Lib.hid (show RdAt w2 k v true by rw [hw2]; exact hk1'.out.take v); have ho2 := Lib.hid (show Only k w w2 by rw [hw2]; exact ho1.out.trans (only_setCell _ _ _ _)); clear hw2))
          go_ret3
          exact ⟨rfl, hk2.out, ho2.out⟩
      | false =>
        have hs : stepS b r false = (r, false) := by unfold stepS; rw [if_neg h34, if_neg (fun h => by cases h.2)]
        rw [hs]
        clear h34 h92 hs
        generalize (b.toNat : Int) = x at *
        go_enter Try.func62, Try.ntmps62
        go_wp2_with (go_at_call 66; (with_reducible refine Calls.mono (hnx.out) ?_); rintro e w1 ⟨rfl, hw1⟩; have hk1 := (show RdAt w1 k r false by rw [hw1]; exact hk'.out.take r); have ho1 := Lib.hid (show Only k w w1 by rw [hw1]; exact only_setCell _ _ _ _); obtain ⟨d0, d1, g0, g1⟩ := hk1.facts; have hk1' := Lib.hid hk1; clear hw1 hk1)
        go_ret3
        exact ⟨rfl, hk1'.out, ho1.out⟩
    · rw [decide_eq_false h92] at e92
      have hs : stepS b r q = (r, q) := by unfold stepS; rw [if_neg h34, if_neg (fun h => h92 h.1)]
      rw [hs]
      clear h34 h92 hs
      generalize (b.toNat : Int) = x at *
      go_enter Try.func62, Try.ntmps62
      go_wp2_with (go_at_call 66; (with_reducible refine Calls.mono (hnx.out) ?_); rintro e w1 ⟨rfl, hw1⟩; have hk1 := (show RdAt w1 k r q by rw [hw1]; exact hk'.out.take r); have ho1 := Lib.hid (show Only k w w1 by rw [hw1]; exact only_setCell _ _ _ _); obtain ⟨d0, d1, g0, g1⟩ := hk1.facts; have hk1' := Lib.hid hk1; clear hw1 hk1)
      go_ret3
      exact ⟨rfl, hk1'.out, ho1.out⟩
/-! ## Up to a byte that is in no quoted text -/
/-- What is behind it. -/
def findL (c : UInt8) : List UInt8 → Bool → Option (List UInt8)
  | [], _ => none
  | b :: r, q => if b = c ∧ q = false then some r else if b = 34 then findL c r (!q) else if b = 92 ∧ q = true then (match r with
    | [] => none
    | _ :: v => findL c v q) else findL c r q
theorem findL_cons (c b : UInt8) (r : List UInt8) (q : Bool) : findL c (b :: r) q = if b = c ∧ q = false then some r else if b = 34 then findL c r (!q) else if b = 92 ∧ q = true then (match r with
    | [] => none
    | _ :: v => findL c v q) else findL c r q := by
  cases r <;> simp only [findL]
theorem findL_yes {c b : UInt8} (r : List UInt8) {q : Bool} (h : b = c ∧ q = false) : findL c (b :: r) q = some r := by
  rw [findL_cons, if_pos h]
theorem findL_no {c b : UInt8} (r : List UInt8) {q : Bool} (h : ¬ (b = c ∧ q = false)) : findL c (b :: r) q = findL c (stepS b r q).1 (stepS b r q).2 := by
  rw [findL_cons, if_neg h]
  unfold stepS
  by_cases h34 : b = 34
  · rw [if_pos h34, if_pos h34]
  · rw [if_neg h34, if_neg h34]
    by_cases h92 : b = 92 ∧ q = true
    · rw [if_pos h92, if_pos h92]
      cases r with
      | nil => rfl
      | cons _ v => rfl
    · rw [if_neg h92, if_neg h92]
theorem stepS_len (b : UInt8) (r : List UInt8) (q : Bool) : (stepS b r q).1.length ≤ r.length := by
  unfold stepS
  split
  · exact Nat.le_refl _
  · split
    · simp
    · exact Nat.le_refl _
/-- What stands ahead of it. -/
def aheadL (c : UInt8) (t : List UInt8) (q : Bool) : List UInt8 := match findL c t q with
  | none => t
  | some r => t.take (t.length - r.length - 1)
def PartR (k : Nat) (c : UInt8) (t : List UInt8) (q : Bool) (w : World) (e : Ending) (w' : World) : Prop :=
  Only k w w' ∧ e = .returned (.tuple #[.string ⟨(aheadL c t q).toArray⟩, .bool (findL c t q).isSome]) ∧ ∃ t' q', RdAt w' k t' q' ∧ t'.length ≤ t.length ∧ ((findL c t q).isSome = true → t'.length < t.length)
set_option maxRecDepth 100000 in
set_option maxHeartbeats 2000000 in
theorem part_any (k : Nat) (c : UInt8) (t : List UInt8) (q : Bool) (w : World) (hk : RdAt w k t q) (ht : t.length ≤ 1000000) : Calls Try.prog 55 #[.pointer (some ⟨k, 0, none⟩), .int .u8 (c.toNat : Int)] w (PartR k c t q w) := by
  unfold PartR
  obtain ⟨c0, -, -, -⟩ := hk.facts
  have hk' := Lib.hid hk
  clear hk
  go_enter Try.func55, Try.ntmps55
  go_wp2
  go_loopw [] (fun W => ∃ u p, RdAt W k u p ∧ u.length ≤ t.length ∧ findL c t q = findL c u p ∧ Only k w W) (fun W => leftN W k)
  case atStart => exact ⟨t, q, hk'.out, Nat.le_refl _, rfl, Only.refl _ _⟩
  case round =>
    obtain ⟨u, p, hrd, hul, hf, ho⟩ := hrel
    clear c0
    have ho' := Lib.hid ho
    have hleft := Lib.hid hrd.left
    cases u with
    | nil =>
      have hst := Lib.hid (step_none k p wr hrd)
      have hf' := Lib.hid (show findL c t q = none by rw [hf]; rfl)
      have hrd' := Lib.hid hrd
      clear hf hrd ho
      go_wp2_with (go_at_call 62; (with_reducible refine Calls.mono hst.out ?_); rintro e w2 ⟨rfl, hw2⟩; obtain rfl := hw2.symm)
      go_ret2
      refine ⟨ho'.out, ?_, [], p, hrd'.out, Nat.zero_le _, fun h => ?_⟩
      · unfold aheadL; rw [hf'.out]; rfl
      · rw [hf'.out] at h; cases h
    | cons b r =>
      have hst := Lib.hid (step_any k b r p wr hrd)
      have hbc := beq8 b c
      have hsl := stepS_len b r p
      have hul2 : r.length + 1 ≤ t.length := by simpa using hul
      unfold StepR at hst
      by_cases hc : b = c ∧ p = false
      · have hf' := Lib.hid (show findL c t q = some r by rw [hf]; exact findL_yes r hc)
        obtain ⟨hc1, rfl⟩ := hc
        rw [decide_eq_true hc1] at hbc
        have hs1 : (stepS b r false).1 = r := by unfold stepS; split <;> simp
        rw [hs1] at hst
        generalize (stepS b r false).2 = q2 at *
        have hx := cut_str t 0 (t.length - r.length - 1)
        rw [List.drop_zero] at hx
        have hx' := Lib.hid hx
        clear hf hrd ho hsl hs1 hc1 hx
        generalize (b.toNat : Int) = x at *
        go_wp2_with (go_at_call 62; (with_reducible refine Calls.mono hst.out ?_); rintro e w2 ⟨rfl, hrd2, ho2⟩; have hrd2' := Lib.hid hrd2; have ho2' := Lib.hid (ho'.out.trans ho2); have d0 := hrd2.facts.1; clear hrd2 ho2)
        go_ret2
        refine ⟨ho2'.out, ?_, r, q2, hrd2'.out, by omega, fun _ => by omega⟩
        unfold aheadL
        rw [hf'.out]
        simp only
        rw [← hx'.out]
        rfl
      · have hf' := Lib.hid (show findL c t q = findL c (stepS b r p).1 (stepS b r p).2 by rw [hf]; exact findL_no r hc)
        have hor : (b ≠ c) ∨ (b = c ∧ p = true) := by
          by_cases h : b = c
          · exact .inr ⟨h, by cases p with
              | true => rfl
              | false => exact absurd ⟨h, rfl⟩ hc⟩
          · exact .inl h
        have hl2 := Lib.hid (show (stepS b r p).1.length < (b :: r).length by simp; omega)
        clear hf hrd ho hc
        generalize (stepS b r p).1 = u2 at *
        generalize (stepS b r p).2 = q2 at *
        generalize b :: r = u at *
        rcases hor with h | ⟨h, rfl⟩
        · rw [decide_eq_false h] at hbc
          clear h
          generalize (b.toNat : Int) = x at *
          go_wp2_with (go_at_call 62; (with_reducible refine Calls.mono hst.out ?_); rintro e w2 ⟨rfl, hrd2, ho2⟩; have hrd2' := Lib.hid hrd2; have ho2' := Lib.hid (ho'.out.trans ho2); have d0 := hrd2.facts.1; clear hrd2 ho2)
          exact ⟨⟨u2, q2, hrd2'.out, by have := hl2.out; omega, hf'.out, ho2'.out⟩, by rw [hrd2'.out.left, hleft.out]; exact hl2.out⟩
        · rw [decide_eq_true h] at hbc
          clear h
          generalize (b.toNat : Int) = x at *
          go_wp2_with (go_at_call 62; (with_reducible refine Calls.mono hst.out ?_); rintro e w2 ⟨rfl, hrd2, ho2⟩; have hrd2' := Lib.hid hrd2; have ho2' := Lib.hid (ho'.out.trans ho2); have d0 := hrd2.facts.1; clear hrd2 ho2)
          exact ⟨⟨u2, q2, hrd2'.out, by have := hl2.out; omega, hf'.out, ho2'.out⟩, by rw [hrd2'.out.left, hleft.out]; exact hl2.out⟩
end Go.Proofs.Ythpohjafnljfhaa
