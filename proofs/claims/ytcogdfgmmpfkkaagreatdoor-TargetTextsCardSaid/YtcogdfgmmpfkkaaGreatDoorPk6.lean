import Derived.Test.YtcogdfgmmpfkkaaGreatDoorPk5
namespace Go.Proofs.YtcogdfgmmpfkkaaGreatDoor
open Go.RowKit
attribute [local go_sem] Oper.semAt_some

/-! ## A byte that is written by its two digits -/
theorem worth_hexN (c : UInt8) : worth (c.toNat : Int) = (hexN c : Int) := by
  unfold worth hexN
  (repeat' split) <;> omega
theorem moreR_lo {n c : Int} (h1 : n * 16 < 18446744073709551616) (h2 : n * 16 + worth c < 18446744073709551616) : moreR 16 n c = (n * 16 + worth c, 0) := by
  unfold moreR
  rw [mulR, if_pos h1]
  exact (if_pos rfl).trans (if_pos h2)
theorem numR_two (a b : UInt8) : numR 16 [a, b] = if 15 < hexN a ∨ 15 < hexN b then ((0 : Int), (110 : Int)) else (((16 * hexN a + hexN b : Nat) : Int), 0) := by
  have ha := hexN_le a
  have hb := hexN_le b
  have wa := worth_hexN a
  have wb := worth_hexN b
  by_cases h : 15 < hexN a ∨ 15 < hexN b
  · rw [if_pos h]
    refine if_neg ?_
    rintro ⟨_, h'⟩
    have e1 := h' a (by simp)
    have e2 := h' b (by simp)
    unfold isDig at e1 e2
    rw [decide_eq_true_eq] at e1 e2
    omega
  · rw [if_neg h]
    unfold numR
    rw [if_pos ⟨by simp, fun c hc => by
      simp only [List.mem_cons, List.not_mem_nil, or_false] at hc
      unfold isDig
      rw [decide_eq_true_eq]
      rcases hc with rfl | rfl <;> omega⟩]
    show step 16 (step 16 ((0 : Int), (0 : Int)) (a.toNat : Int)) (b.toNat : Int) = _
    rw [step_go (b := 16) (c := (a.toNat : Int)) (r := ((0 : Int), (0 : Int))) rfl, moreR_lo (by omega) (by omega), step_go (b := 16) (r := ((0 : Int) * 16 + worth (a.toNat : Int), (0 : Int))) rfl, moreR_lo (by omega) (by omega)]
    exact Prod.ext (by show _ = _; omega) rfl
/-- The byte of two digits, or none. -/
def octL : List UInt8 → Option UInt8
  | [a, b] => if 15 < hexN a ∨ 15 < hexN b then none else some (UInt8.ofNat (16 * hexN a + hexN b))
  | _ => none
def OctR (o : Option UInt8) (w : World) (e : Ending) (w' : World) : Prop := (match o with
  | some c => e = .returned (.int .u8 (c.toNat : Int))
  | none => e = gaveE 210) ∧ Below w.heap.size w w'
theorem octet_any (d : List UInt8) (hd : d.length ≤ 2) (w : World) (hT : Tab w) : Calls Tryz.prog 73 #[.string ⟨d.toArray⟩] w (OctR (octL d) w) := by
  have h0 := Lib.hid (hexDigitsCall_any ⟨d.toArray⟩ (by show d.length ≤ _; omega) w hT)
  by_cases h2 : d.length = 2
  · obtain ⟨a, b, rfl⟩ : ∃ a b, d = [a, b] := by
      match d, h2 with
      | [a, b], _ => exact ⟨a, b, rfl⟩
    have hn := numR_two a b
    unfold octL OctR
    by_cases h : 15 < hexN a ∨ 15 < hexN b
    · rw [if_pos h] at hn
      simp only [if_pos h]
      have h0' : Hid (Calls Tryz.prog 89 #[.string ⟨[a, b].toArray⟩] w fun e w' => e = .returned (.tuple #[.int .u64 0, .int .i64 110]) ∧ Below w.heap.size w w') := Lib.hid (by have := h0.out; simp only [hn] at this; exact this)
      clear hn h h0
      generalize hy : [a, b] = y at *
      have hyl : (y.length : Int) = 2 := by rw [← hy]; rfl
      have hyE : ((y.length : Int) == 2) = true := by rw [hyl]; rfl
      clear hy h2 hd
      go_enter Tryz.func73, Tryz.ntmps73
      go_wp2_with (first
        | (go_at_call 89; (with_reducible refine Calls.mono h0'.out ?_); rintro e w2 ⟨rfl, hb2⟩; have hb2' := Lib.hid hb2; clear hb2)
        | (go_at_call 63; (with_reducible refine Calls.mono (must_no 210 _) ?_); rintro e w7 ⟨rfl, hw7⟩; obtain rfl := hw7.symm))
      exact ⟨rfl, rfl, hb2'.out⟩
    · rw [if_neg h] at hn
      simp only [if_neg h]
      have ha := hexN_le a
      have hb := hexN_le b
      have hlt : 16 * hexN a + hexN b < 256 := by omega
      generalize 16 * hexN a + hexN b = m at *
      have h0' : Hid (Calls Tryz.prog 89 #[.string ⟨[a, b].toArray⟩] w fun e w' => e = .returned (.tuple #[.int .u64 (m : Int), .int .i64 0]) ∧ Below w.heap.size w w') := Lib.hid (by have := h0.out; simp only [hn] at this; exact this)
      clear hn h h0
      generalize hy : [a, b] = y at *
      have hyl : (y.length : Int) = 2 := by rw [← hy]; rfl
      have hw8 : IntKind.u8.wrap (m : Int) = (m : Int) := by rw [IntKind.wrap_u8]; omega
      clear hy h2 hd
      go_enter Tryz.func73, Tryz.ntmps73
      go_wp2_with (first
        | (go_at_call 89; (with_reducible refine Calls.mono h0'.out ?_); rintro e w2 ⟨rfl, hb2⟩; have hb2' := Lib.hid hb2; clear hb2)
        | (go_at_call 63; (with_reducible refine Calls.mono (must_yes 210 _) ?_); rintro e w7 ⟨rfl, hw7⟩; obtain rfl := hw7.symm))
      go_ret
      refine ⟨?_, hb2'.out⟩
      rw [UInt8.toNat_ofNat_of_lt' hlt]
      rfl
  · obtain ⟨r, hr⟩ : ∃ r, numR 16 (⟨d.toArray⟩ : ByteArray).data.toList = r := ⟨_, rfl⟩
    obtain ⟨n, no⟩ := r
    have h0' : Hid (Calls Tryz.prog 89 #[.string ⟨d.toArray⟩] w fun e w' => e = .returned (.tuple #[.int .u64 n, .int .i64 no]) ∧ Below w.heap.size w w') := Lib.hid (by have := h0.out; simp only [hr] at this; exact this)
    clear hr h0
    have hyE : ((d.length : Int) == 2) = false := beq_eq_false_iff_ne.2 (by omega)
    have hol : octL d = none := by
      rcases d with _ | ⟨a, _ | ⟨b, _ | ⟨c, r⟩⟩⟩
      · rfl
      · rfl
      · exact absurd rfl h2
      · rfl
    unfold OctR
    rw [hol]
    clear hol h2 hd
    simp only
    go_enter Tryz.func73, Tryz.ntmps73
    go_wp2_with (first
      | (go_at_call 89; (with_reducible refine Calls.mono h0'.out ?_); rintro e w2 ⟨rfl, hb2⟩; have hb2' := Lib.hid hb2; clear hb2)
      | (go_at_call 63; (with_reducible refine Calls.mono (must_no 210 _) ?_); rintro e w7 ⟨rfl, hw7⟩; obtain rfl := hw7.symm))
    exact ⟨rfl, rfl, hb2'.out⟩
/-! ## What is written of one byte -/
theorem Grew.lower {k : Nat} {W W' : World} (h : Grew k W W') (hk : k < W.heap.size) : Below k W W' := ⟨h.os, h.tape, h.output, h.size, fun i hi => h.block i (by omega) (by omega)⟩
theorem Tab.upto {W W' : World} {k : Nat} (h : Tab W) (hb : Below k W W') (hk : 0 < k) : Tab W' :=
  ⟨(hb.cell (p := ⟨0, 0, none⟩) hk).trans h.1, (hb.cell (p := ⟨0, 1, none⟩) hk).trans h.2⟩
/-- What is next, and what is left. -/
def nextL (plus : Bool) : List UInt8 → Option (UInt8 × List UInt8)
  | [] => none
  | c :: r => if c = 37 then (octL (r.take 2)).map (·, r.drop 2) else some (if plus = true ∧ c = 43 then 32 else c, r)
theorem str_eqL (a b : List UInt8) : ((⟨a.toArray⟩ : ByteArray).toList == (⟨b.toArray⟩ : ByteArray).toList) = (a == b) := by simp
theorem nextT_pct (plus : Bool) (k : Nat) (r : List UInt8) (w : World) (hT : Tab w) (hl : r.length ≤ 999998) (hk : RdT w k (37 :: r) plus) (hgk : 0 < k) : Calls Tryz.prog 58 #[.pointer (some ⟨k, 0, none⟩)] w fun e w' =>
    (match octL (r.take 2) with
      | some c => e = .returned (.int .u8 (c.toNat : Int)) ∧ RdT w' k (r.drop 2) plus
      | none => e = gaveE 210) ∧ Grew k w w' := by
  have h1 := Lib.hid (takeT_any 1 (by omega) k (37 :: r) plus w (by simp; omega) hk)
  have k1 := hk.take r
  have hb1 := Lib.hid ((Grew.refl k w).setT 0 (.string ⟨r.toArray⟩))
  obtain ⟨w1, hw1⟩ : ∃ w1, w.setCell ⟨k, 0, none⟩ (.string ⟨r.toArray⟩) = w1 := ⟨_, rfl⟩
  have h1' : Hid (Calls Tryz.prog 72 #[.pointer (some ⟨k, 0, none⟩), .int .i64 1] w fun e w' => e = .returned (.string ⟨#[37]⟩) ∧ w' = w1) := Lib.hid (by rw [← hw1]; exact h1.out)
  rw [hw1] at k1 hb1
  have h2 := Lib.hid (takeT_any 2 (by omega) k r plus w1 (by omega) k1)
  have k2 := k1.take (r.drop 2)
  have hb2 := Lib.hid (hb1.out.setT 0 (.string ⟨(r.drop 2).toArray⟩))
  have hkw := hk.lt
  obtain ⟨w2, hw2⟩ : ∃ w2, w1.setCell ⟨k, 0, none⟩ (.string ⟨(r.drop 2).toArray⟩) = w2 := ⟨_, rfl⟩
  have h2' : Hid (Calls Tryz.prog 72 #[.pointer (some ⟨k, 0, none⟩), .int .i64 2] w1 fun e w' => e = .returned (.string ⟨(r.take 2).toArray⟩) ∧ w' = w2) := Lib.hid (by rw [← hw2]; exact h2.out)
  rw [hw2] at k2 hb2
  have h3 := Lib.hid (octet_any (r.take 2) (by simp; omega) w2 (hT.upto (hb2.out.lower hkw) hgk))
  have k2' := Lib.hid k2
  have hkz := k2.lt
  clear h1 h2 hw1 hw2 k1 hk hb1 k2
  generalize r.take 2 = d at *
  generalize r.drop 2 = r2 at *
  unfold OctR at h3
  obtain ⟨o, ho⟩ : ∃ o, octL d = o := ⟨_, rfl⟩
  rw [ho] at h3 ⊢
  clear ho
  cases o with
  | none =>
    simp only at h3 ⊢
    go_enter Tryz.func58, Tryz.ntmps58
    go_wp2_with (first
      | (go_at_call 72; (with_reducible refine Calls.mono h1'.out ?_); rintro e w7 ⟨rfl, hw7⟩; obtain rfl := hw7.symm)
      | (go_at_call 72; (with_reducible refine Calls.mono h2'.out ?_); rintro e w7 ⟨rfl, hw7⟩; obtain rfl := hw7.symm)
      | (go_at_call 73; (with_reducible refine Calls.mono h3.out ?_); rintro e w3 ⟨rfl, hb3⟩; have hb3' := Lib.hid hb3; clear hb3))
    exact ⟨rfl, rfl, hb2.out.trans (Grew.of_below hb3'.out)⟩
  | some c =>
    simp only at h3 ⊢
    go_enter Tryz.func58, Tryz.ntmps58
    go_wp2_with (first
      | (go_at_call 72; (with_reducible refine Calls.mono h1'.out ?_); rintro e w7 ⟨rfl, hw7⟩; obtain rfl := hw7.symm)
      | (go_at_call 72; (with_reducible refine Calls.mono h2'.out ?_); rintro e w7 ⟨rfl, hw7⟩; obtain rfl := hw7.symm)
      | (go_at_call 73; (with_reducible refine Calls.mono h3.out ?_); rintro e w3 ⟨rfl, hb3⟩; have hb3' := Lib.hid hb3; clear hb3))
    go_ret
    exact ⟨⟨rfl, k2'.out.below hb3'.out⟩, hb2.out.trans (Grew.of_below hb3'.out)⟩
theorem nextL_cons (plus : Bool) (c : UInt8) (r : List UInt8) : nextL plus (c :: r) = if c = 37 then (octL (r.take 2)).map (·, r.drop 2) else some (if plus = true ∧ c = 43 then 32 else c, r) := rfl
theorem nextT_other (plus : Bool) (c : UInt8) (hc : c ≠ 37) (k : Nat) (r : List UInt8) (w : World) (hl : r.length ≤ 999998) (hk : RdT w k (c :: r) plus) : Calls Tryz.prog 58 #[.pointer (some ⟨k, 0, none⟩)] w fun e w' =>
    (e = .returned (.int .u8 ((if plus = true ∧ c = 43 then 32 else c : UInt8).toNat : Int)) ∧ RdT w' k r plus) ∧ Grew k w w' := by
  have h1 := Lib.hid (takeT_any 1 (by omega) k (c :: r) plus w (by simp; omega) hk)
  have k1 := hk.take r
  have hb1 := Lib.hid ((Grew.refl k w).setT 0 (.string ⟨r.toArray⟩))
  obtain ⟨w1, hw1⟩ : ∃ w1, w.setCell ⟨k, 0, none⟩ (.string ⟨r.toArray⟩) = w1 := ⟨_, rfl⟩
  have h1' : Hid (Calls Tryz.prog 72 #[.pointer (some ⟨k, 0, none⟩), .int .i64 1] w fun e w' => e = .returned (.string ⟨[c].toArray⟩) ∧ w' = w1) := Lib.hid (by rw [← hw1]; exact h1.out)
  rw [hw1] at k1 hb1
  obtain ⟨-, c1, -, -⟩ := k1.facts
  have k1' := Lib.hid k1
  clear h1 hw1 hk k1
  have e37 : (([c] : List UInt8) == [37]) = false := by simp [hc]
  have hlt : 0 < [c].length := by simp
  have hltI : (0 : Int) < (([c] : List UInt8).length : Int) := by simp
  have hb0 : (((⟨[c].toArray⟩ : ByteArray)[0]'hlt).toNat : Int) = (c.toNat : Int) := rfl
  by_cases h43 : c = 43
  · have e43 : (([c] : List UInt8) == [43]) = true := by simp [h43]
    cases plus with
    | true =>
      generalize [c] = y at *
      rw [if_pos ⟨rfl, h43⟩]
      clear hc h43
      go_enter Tryz.func58, Tryz.ntmps58
      go_wp2_with (go_at_call 72; (with_reducible refine Calls.mono h1'.out ?_); rintro e w7 ⟨rfl, hw7⟩; obtain rfl := hw7.symm)
      go_ret
      exact ⟨⟨rfl, k1'.out⟩, hb1.out⟩
    | false =>
      generalize [c] = y at *
      rw [if_neg (by simp)]
      clear hc h43
      go_enter Tryz.func58, Tryz.ntmps58
      go_wp2_with (go_at_call 72; (with_reducible refine Calls.mono h1'.out ?_); rintro e w7 ⟨rfl, hw7⟩; obtain rfl := hw7.symm)
      go_ret
      exact ⟨⟨rfl, k1'.out⟩, hb1.out⟩
  · have e43 : (([c] : List UInt8) == [43]) = false := by simp [h43]
    rw [if_neg (fun h => h43 h.2)]
    clear hc h43
    generalize [c] = y at *
    go_enter Tryz.func58, Tryz.ntmps58
    go_wp2_with (go_at_call 72; (with_reducible refine Calls.mono h1'.out ?_); rintro e w7 ⟨rfl, hw7⟩; obtain rfl := hw7.symm)
    go_ret
    exact ⟨⟨rfl, k1'.out⟩, hb1.out⟩
theorem nextT_any (plus : Bool) (c : UInt8) (k : Nat) (r : List UInt8) (w : World) (hT : Tab w) (hl : r.length ≤ 999998) (hk : RdT w k (c :: r) plus) (hgk : 0 < k) : Calls Tryz.prog 58 #[.pointer (some ⟨k, 0, none⟩)] w fun e w' =>
    (match nextL plus (c :: r) with
      | some x => e = .returned (.int .u8 (x.1.toNat : Int)) ∧ RdT w' k x.2 plus
      | none => e = gaveE 210) ∧ Grew k w w' := by
  rw [nextL_cons]
  by_cases h : c = 37
  · subst h
    rw [if_pos rfl]
    refine (nextT_pct plus k r w hT hl hk hgk).mono ?_
    cases octL (r.take 2) <;> exact fun e w' h => h
  · rw [if_neg h]
    exact nextT_other plus c h k r w hl hk
theorem goD_next {plus : Bool} {c : UInt8} {r : List UInt8} {x : UInt8 × List UInt8} (done : List UInt8) (h : nextL plus (c :: r) = some x) : goD plus done (c :: r) = goD plus (done ++ [x.1]) x.2 ∧ x.2.length ≤ r.length := by
  rw [nextL_cons] at h
  by_cases h37 : c = 37
  · subst h37
    rw [if_pos rfl] at h
    rcases r with _ | ⟨a, _ | ⟨b, r⟩⟩
    · simp [octL] at h
    · simp [octL] at h
    · simp only [List.take_succ_cons, List.take_zero, octL, List.drop_succ_cons, List.drop_zero] at h
      by_cases hx : 15 < hexN a ∨ 15 < hexN b
      · rw [if_pos hx] at h; simp at h
      · rw [if_neg hx] at h
        simp only [Option.map_some, Option.some.injEq] at h
        subst h
        exact ⟨goD_pct plus done a b r (by omega) (by omega), by simp; omega⟩
  · rw [if_neg h37] at h
    simp only [Option.some.injEq] at h
    subst h
    exact ⟨goD_other plus done r h37, Nat.le_refl _⟩
theorem goD_none {plus : Bool} {c : UInt8} {r : List UInt8} (done : List UInt8) (h : nextL plus (c :: r) = none) : goD plus done (c :: r) = none := by
  rw [nextL_cons] at h
  by_cases h37 : c = 37
  · subst h37
    rw [if_pos rfl] at h
    rcases r with _ | ⟨a, _ | ⟨b, r⟩⟩
    · exact goD_short plus done (by simp)
    · exact goD_short plus done (by simp)
    · simp only [List.take_succ_cons, List.take_zero, octL] at h
      by_cases hx : 15 < hexN a ∨ 15 < hexN b
      · exact goD_bad plus done a b r hx
      · rw [if_neg hx] at h; simp at h
  · rw [if_neg h37] at h
    simp at h
end Go.Proofs.YtcogdfgmmpfkkaaGreatDoor
