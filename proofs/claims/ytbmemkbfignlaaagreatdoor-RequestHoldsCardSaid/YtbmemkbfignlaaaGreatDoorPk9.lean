import Derived.Test.YtbmemkbfignlaaaGreatDoorPk8
import Derived.Laws.MakeOwn
namespace Go.Proofs.YtbmemkbfignlaaaGreatDoor
open Go.RowKit
attribute [local go_sem] Oper.semAt_some

/-! ## A byte that is written by its two digits -/
theorem worth_hexN (c : UInt8) : worth (c.toNat : Int) = (hexN c : Int) := by
  unfold worth hexN
  (repeat' split) <;> omega
theorem moreR_lo {n c : Int} (h1 : n * 16 < 18446744073709551616) (h2 : n * 16 + worth c < 18446744073709551616) : moreR 16 n c = (n * 16 + worth c, 0) := by
  unfold moreR
  rw [mulR, if_pos h1]
  exact (if_pos rfl).trans (if_pos h2)
theorem numR_two (a b : UInt8) : numR 16 [a, b] = if 15 < hexN a ∨ 15 < hexN b then ((0 : Int), (110 : Int)) else (((16 * hexN a + hexN b : Nat) : Int), 0) := by
  have ha := hexN_le a
  have hb := hexN_le b
  have wa := worth_hexN a
  have wb := worth_hexN b
  by_cases h : 15 < hexN a ∨ 15 < hexN b
  · rw [if_pos h]
    refine if_neg ?_
    rintro ⟨_, h'⟩
    have e1 := h' a (by simp)
    have e2 := h' b (by simp)
    unfold isDig at e1 e2
    rw [decide_eq_true_eq] at e1 e2
    omega
  · rw [if_neg h]
    unfold numR
    rw [if_pos ⟨by simp, fun c hc => by
      simp only [List.mem_cons, List.not_mem_nil, or_false] at hc
      unfold isDig
      rw [decide_eq_true_eq]
      rcases hc with rfl | rfl <;> omega⟩]
    show step 16 (step 16 ((0 : Int), (0 : Int)) (a.toNat : Int)) (b.toNat : Int) = _
    rw [step_go (b := 16) (c := (a.toNat : Int)) (r := ((0 : Int), (0 : Int))) rfl, moreR_lo (by omega) (by omega), step_go (b := 16) (r := ((0 : Int) * 16 + worth (a.toNat : Int), (0 : Int))) rfl, moreR_lo (by omega) (by omega)]
    exact Prod.ext (by show _ = _; omega) rfl
/-- The byte of two digits, or none. -/
def octL : List UInt8 → Option UInt8
  | [a, b] => if 15 < hexN a ∨ 15 < hexN b then none else some (UInt8.ofNat (16 * hexN a + hexN b))
  | _ => none
def OctR (o : Option UInt8) (w : World) (e : Ending) (w' : World) : Prop := (match o with
  | some c => e = .returned (.int .u8 (c.toNat : Int))
  | none => e = gaveE 210) ∧ Below w.heap.size w w'
theorem octet_any (d : List UInt8) (hd : d.length ≤ 2) (w : World) (hT : Tab w) : Calls Tryz.prog 181 #[.string ⟨d.toArray⟩] w (OctR (octL d) w) := by
  have h0 := Lib.hid (hexDigitsCall_any ⟨d.toArray⟩ (by show d.length ≤ _; omega) w hT)
  by_cases h2 : d.length = 2
  · obtain ⟨a, b, rfl⟩ : ∃ a b, d = [a, b] := by
      match d, h2 with
      | [a, b], _ => exact ⟨a, b, rfl⟩
    have hn := numR_two a b
    unfold octL OctR
    by_cases h : 15 < hexN a ∨ 15 < hexN b
    · rw [if_pos h] at hn
      simp only [if_pos h]
      have h0' : Hid (Calls Tryz.prog 194 #[.string ⟨[a, b].toArray⟩] w fun e w' => e = .returned (.tuple #[.int .u64 0, .int .i64 110]) ∧ Below w.heap.size w w') := Lib.hid (by have := h0.out; simp only [hn] at this; exact this)
      clear hn h h0
      generalize hy : [a, b] = y at *
      have hyl : (y.length : Int) = 2 := by rw [← hy]; rfl
      have hyE : ((y.length : Int) == 2) = true := by rw [hyl]; rfl
      clear hy h2 hd
      go_enter Tryz.func181, Tryz.ntmps181
      go_wp2_with (first
        | (go_at_call 194; (with_reducible refine Calls.mono h0'.out ?_); rintro e w2 ⟨rfl, hb2⟩; have hb2' := Lib.hid hb2; clear hb2)
        | (go_at_call 133; (with_reducible refine Calls.mono (must_no 210 _) ?_); rintro e w7 ⟨rfl, hw7⟩; obtain rfl := hw7.symm))
      exact ⟨rfl, rfl, hb2'.out⟩
    · rw [if_neg h] at hn
      simp only [if_neg h]
      have ha := hexN_le a
      have hb := hexN_le b
      have hlt : 16 * hexN a + hexN b < 256 := by omega
      generalize 16 * hexN a + hexN b = m at *
      have h0' : Hid (Calls Tryz.prog 194 #[.string ⟨[a, b].toArray⟩] w fun e w' => e = .returned (.tuple #[.int .u64 (m : Int), .int .i64 0]) ∧ Below w.heap.size w w') := Lib.hid (by have := h0.out; simp only [hn] at this; exact this)
      clear hn h h0
      generalize hy : [a, b] = y at *
      have hyl : (y.length : Int) = 2 := by rw [← hy]; rfl
      have hw8 : IntKind.u8.wrap (m : Int) = (m : Int) := by rw [IntKind.wrap_u8]; omega
      clear hy h2 hd
      go_enter Tryz.func181, Tryz.ntmps181
      go_wp2_with (first
        | (go_at_call 194; (with_reducible refine Calls.mono h0'.out ?_); rintro e w2 ⟨rfl, hb2⟩; have hb2' := Lib.hid hb2; clear hb2)
        | (go_at_call 133; (with_reducible refine Calls.mono (must_yes 210 _) ?_); rintro e w7 ⟨rfl, hw7⟩; obtain rfl := hw7.symm))
      go_ret
      refine ⟨?_, hb2'.out⟩
      rw [UInt8.toNat_ofNat_of_lt' hlt]
      rfl
  · obtain ⟨r, hr⟩ : ∃ r, numR 16 (⟨d.toArray⟩ : ByteArray).data.toList = r := ⟨_, rfl⟩
    obtain ⟨n, no⟩ := r
    have h0' : Hid (Calls Tryz.prog 194 #[.string ⟨d.toArray⟩] w fun e w' => e = .returned (.tuple #[.int .u64 n, .int .i64 no]) ∧ Below w.heap.size w w') := Lib.hid (by have := h0.out; simp only [hr] at this; exact this)
    clear hr h0
    have hyE : ((d.length : Int) == 2) = false := beq_eq_false_iff_ne.2 (by omega)
    have hol : octL d = none := by
      rcases d with _ | ⟨a, _ | ⟨b, _ | ⟨c, r⟩⟩⟩
      · rfl
      · rfl
      · exact absurd rfl h2
      · rfl
    unfold OctR
    rw [hol]
    clear hol h2 hd
    simp only
    go_enter Tryz.func181, Tryz.ntmps181
    go_wp2_with (first
      | (go_at_call 194; (with_reducible refine Calls.mono h0'.out ?_); rintro e w2 ⟨rfl, hb2⟩; have hb2' := Lib.hid hb2; clear hb2)
      | (go_at_call 133; (with_reducible refine Calls.mono (must_no 210 _) ?_); rintro e w7 ⟨rfl, hw7⟩; obtain rfl := hw7.symm))
    exact ⟨rfl, rfl, hb2'.out⟩
/-! ## What is written of one byte -/
theorem Grew.lower {k : Nat} {W W' : World} (h : Grew k W W') (hk : k < W.heap.size) : Below k W W' := ⟨h.os, h.tape, h.output, h.size, fun i hi => h.block i (by omega) (by omega)⟩
theorem Tab.upto {W W' : World} {k : Nat} (h : Tab W) (hb : Below k W W') (hk : 3 < k) : Tab W' :=
  ⟨(hb.cell (p := ⟨3, 0, none⟩) hk).trans h.1, (hb.cell (p := ⟨3, 1, none⟩) hk).trans h.2⟩
/-- What is next, and what is left. -/
def nextL (plus : Bool) : List UInt8 → Option (UInt8 × List UInt8)
  | [] => none
  | c :: r => if c = 37 then (octL (r.take 2)).map (·, r.drop 2) else some (if plus = true ∧ c = 43 then 32 else c, r)
theorem str_eqL (a b : List UInt8) : ((⟨a.toArray⟩ : ByteArray).toList == (⟨b.toArray⟩ : ByteArray).toList) = (a == b) := by simp
theorem nextT_pct (plus : Bool) (k : Nat) (r : List UInt8) (w : World) (hT : Tab w) (hl : r.length ≤ 999998) (hk : RdT w k (37 :: r) plus) (hgk : 3 < k) : Calls Tryz.prog 166 #[.pointer (some ⟨k, 0, none⟩)] w fun e w' =>
    (match octL (r.take 2) with
      | some c => e = .returned (.int .u8 (c.toNat : Int)) ∧ RdT w' k (r.drop 2) plus
      | none => e = gaveE 210) ∧ Grew k w w' := by
  have h1 := Lib.hid (takeT_any 1 (by omega) k (37 :: r) plus w (by simp; omega) hk)
  have k1 := hk.take r
  have hb1 := Lib.hid ((Grew.refl k w).setT 0 (.string ⟨r.toArray⟩))
  obtain ⟨w1, hw1⟩ : ∃ w1, w.setCell ⟨k, 0, none⟩ (.string ⟨r.toArray⟩) = w1 := ⟨_, rfl⟩
  have h1' : Hid (Calls Tryz.prog 180 #[.pointer (some ⟨k, 0, none⟩), .int .i64 1] w fun e w' => e = .returned (.string ⟨#[37]⟩) ∧ w' = w1) := Lib.hid (by rw [← hw1]; exact h1.out)
  rw [hw1] at k1 hb1
  have h2 := Lib.hid (takeT_any 2 (by omega) k r plus w1 (by omega) k1)
  have k2 := k1.take (r.drop 2)
  have hb2 := Lib.hid (hb1.out.setT 0 (.string ⟨(r.drop 2).toArray⟩))
  have hkw := hk.lt
  obtain ⟨w2, hw2⟩ : ∃ w2, w1.setCell ⟨k, 0, none⟩ (.string ⟨(r.drop 2).toArray⟩) = w2 := ⟨_, rfl⟩
  have h2' : Hid (Calls Tryz.prog 180 #[.pointer (some ⟨k, 0, none⟩), .int .i64 2] w1 fun e w' => e = .returned (.string ⟨(r.take 2).toArray⟩) ∧ w' = w2) := Lib.hid (by rw [← hw2]; exact h2.out)
  rw [hw2] at k2 hb2
  have h3 := Lib.hid (octet_any (r.take 2) (by simp; omega) w2 (hT.upto (hb2.out.lower hkw) hgk))
  have k2' := Lib.hid k2
  have hkz := k2.lt
  clear h1 h2 hw1 hw2 k1 hk hb1 k2
  generalize r.take 2 = d at *
  generalize r.drop 2 = r2 at *
  unfold OctR at h3
  obtain ⟨o, ho⟩ : ∃ o, octL d = o := ⟨_, rfl⟩
  rw [ho] at h3 ⊢
  clear ho
  cases o with
  | none =>
    simp only at h3 ⊢
    go_enter Tryz.func166, Tryz.ntmps166
    go_wp2_with (first
      | (go_at_call 180; (with_reducible refine Calls.mono h1'.out ?_); rintro e w7 ⟨rfl, hw7⟩; obtain rfl := hw7.symm)
      | (go_at_call 180; (with_reducible refine Calls.mono h2'.out ?_); rintro e w7 ⟨rfl, hw7⟩; obtain rfl := hw7.symm)
      | (go_at_call 181; (with_reducible refine Calls.mono h3.out ?_); rintro e w3 ⟨rfl, hb3⟩; have hb3' := Lib.hid hb3; clear hb3))
    exact ⟨rfl, rfl, hb2.out.trans (Grew.of_below hb3'.out)⟩
  | some c =>
    simp only at h3 ⊢
    go_enter Tryz.func166, Tryz.ntmps166
    go_wp2_with (first
      | (go_at_call 180; (with_reducible refine Calls.mono h1'.out ?_); rintro e w7 ⟨rfl, hw7⟩; obtain rfl := hw7.symm)
      | (go_at_call 180; (with_reducible refine Calls.mono h2'.out ?_); rintro e w7 ⟨rfl, hw7⟩; obtain rfl := hw7.symm)
      | (go_at_call 181; (with_reducible refine Calls.mono h3.out ?_); rintro e w3 ⟨rfl, hb3⟩; have hb3' := Lib.hid hb3; clear hb3))
    go_ret
    exact ⟨⟨rfl, k2'.out.below hb3'.out⟩, hb2.out.trans (Grew.of_below hb3'.out)⟩
theorem nextL_cons (plus : Bool) (c : UInt8) (r : List UInt8) : nextL plus (c :: r) = if c = 37 then (octL (r.take 2)).map (·, r.drop 2) else some (if plus = true ∧ c = 43 then 32 else c, r) := rfl
theorem nextT_other (plus : Bool) (c : UInt8) (hc : c ≠ 37) (k : Nat) (r : List UInt8) (w : World) (hl : r.length ≤ 999998) (hk : RdT w k (c :: r) plus) : Calls Tryz.prog 166 #[.pointer (some ⟨k, 0, none⟩)] w fun e w' =>
    (e = .returned (.int .u8 ((if plus = true ∧ c = 43 then 32 else c : UInt8).toNat : Int)) ∧ RdT w' k r plus) ∧ Grew k w w' := by
  have h1 := Lib.hid (takeT_any 1 (by omega) k (c :: r) plus w (by simp; omega) hk)
  have k1 := hk.take r
  have hb1 := Lib.hid ((Grew.refl k w).setT 0 (.string ⟨r.toArray⟩))
  obtain ⟨w1, hw1⟩ : ∃ w1, w.setCell ⟨k, 0, none⟩ (.string ⟨r.toArray⟩) = w1 := ⟨_, rfl⟩
  have h1' : Hid (Calls Tryz.prog 180 #[.pointer (some ⟨k, 0, none⟩), .int .i64 1] w fun e w' => e = .returned (.string ⟨[c].toArray⟩) ∧ w' = w1) := Lib.hid (by rw [← hw1]; exact h1.out)
  rw [hw1] at k1 hb1
  obtain ⟨-, c1, -, -⟩ := k1.facts
  have k1' := Lib.hid k1
  clear h1 hw1 hk k1
  have e37 : (([c] : List UInt8) == [37]) = false := by simp [hc]
  have hlt : 0 < [c].length := by simp
  have hltI : (0 : Int) < (([c] : List UInt8).length : Int) := by simp
  have hb0 : (((⟨[c].toArray⟩ : ByteArray)[0]'hlt).toNat : Int) = (c.toNat : Int) := rfl
  by_cases h43 : c = 43
  · have e43 : (([c] : List UInt8) == [43]) = true := by simp [h43]
    cases plus with
    | true =>
      generalize [c] = y at *
      rw [if_pos ⟨rfl, h43⟩]
      clear hc h43
      go_enter Tryz.func166, Tryz.ntmps166
      go_wp2_with (go_at_call 180; (with_reducible refine Calls.mono h1'.out ?_); rintro e w7 ⟨rfl, hw7⟩; obtain rfl := hw7.symm)
      go_ret
      exact ⟨⟨rfl, k1'.out⟩, hb1.out⟩
    | false =>
      generalize [c] = y at *
      rw [if_neg (by simp)]
      clear hc h43
      go_enter Tryz.func166, Tryz.ntmps166
      go_wp2_with (go_at_call 180; (with_reducible refine Calls.mono h1'.out ?_); rintro e w7 ⟨rfl, hw7⟩; obtain rfl := hw7.symm)
      go_ret
      exact ⟨⟨rfl, k1'.out⟩, hb1.out⟩
  · have e43 : (([c] : List UInt8) == [43]) = false := by simp [h43]
    rw [if_neg (fun h => h43 h.2)]
    clear hc h43
    generalize [c] = y at *
    go_enter Tryz.func166, Tryz.ntmps166
    go_wp2_with (go_at_call 180; (with_reducible refine Calls.mono h1'.out ?_); rintro e w7 ⟨rfl, hw7⟩; obtain rfl := hw7.symm)
    go_ret
    exact ⟨⟨rfl, k1'.out⟩, hb1.out⟩
theorem nextT_any (plus : Bool) (c : UInt8) (k : Nat) (r : List UInt8) (w : World) (hT : Tab w) (hl : r.length ≤ 999998) (hk : RdT w k (c :: r) plus) (hgk : 3 < k) : Calls Tryz.prog 166 #[.pointer (some ⟨k, 0, none⟩)] w fun e w' =>
    (match nextL plus (c :: r) with
      | some x => e = .returned (.int .u8 (x.1.toNat : Int)) ∧ RdT w' k x.2 plus
      | none => e = gaveE 210) ∧ Grew k w w' := by
  rw [nextL_cons]
  by_cases h : c = 37
  · subst h
    rw [if_pos rfl]
    refine (nextT_pct plus k r w hT hl hk hgk).mono ?_
    cases octL (r.take 2) <;> exact fun e w' h => h
  · rw [if_neg h]
    exact nextT_other plus c h k r w hl hk
theorem goD_next {plus : Bool} {c : UInt8} {r : List UInt8} {x : UInt8 × List UInt8} (done : List UInt8) (h : nextL plus (c :: r) = some x) : goD plus done (c :: r) = goD plus (done ++ [x.1]) x.2 ∧ x.2.length ≤ r.length := by
  rw [nextL_cons] at h
  by_cases h37 : c = 37
  · subst h37
    rw [if_pos rfl] at h
    rcases r with _ | ⟨a, _ | ⟨b, r⟩⟩
    · simp [octL] at h
    · simp [octL] at h
    · simp only [List.take_succ_cons, List.take_zero, octL, List.drop_succ_cons, List.drop_zero] at h
      by_cases hx : 15 < hexN a ∨ 15 < hexN b
      · rw [if_pos hx] at h; simp at h
      · rw [if_neg hx] at h
        simp only [Option.map_some, Option.some.injEq] at h
        subst h
        exact ⟨goD_pct plus done a b r (by omega) (by omega), by simp; omega⟩
  · rw [if_neg h37] at h
    simp only [Option.some.injEq] at h
    subst h
    exact ⟨goD_other plus done r h37, Nat.le_refl _⟩
theorem goD_none {plus : Bool} {c : UInt8} {r : List UInt8} (done : List UInt8) (h : nextL plus (c :: r) = none) : goD plus done (c :: r) = none := by
  rw [nextL_cons] at h
  by_cases h37 : c = 37
  · subst h37
    rw [if_pos rfl] at h
    rcases r with _ | ⟨a, _ | ⟨b, r⟩⟩
    · exact goD_short plus done (by simp)
    · exact goD_short plus done (by simp)
    · simp only [List.take_succ_cons, List.take_zero, octL] at h
      by_cases hx : 15 < hexN a ∨ 15 < hexN b
      · exact goD_bad plus done a b r hx
      · rw [if_neg hx] at h; simp at h
  · rw [if_neg h37] at h
    simp at h
end Go.Proofs.YtbmemkbfignlaaaGreatDoor

namespace Go.Proofs.YtbmemkbfignlaaaGreatDoor
open Go.RowKit
attribute [local go_sem] Oper.semAt_some

/-! ## A text, decoded -/
def lenV : Value → Nat
  | .slice _ n _ => n
  | _ => 0
/-- What a call tells that may give up: a value, or what it gave up by. -/
def DecT (o : Option (List UInt8)) (w : World) (e : Ending) (w' : World) : Prop := (match o with
  | some l => e = .returned (.string ⟨l.toArray⟩)
  | none => e = gaveE 210) ∧ Below w.heap.size w w'
theorem decT_len (plus : Bool) : ∀ (n : Nat) {s d : List UInt8}, s.length ≤ n → decL plus s = some d → d.length ≤ s.length
  | 0, s, d, h, hd => by
    obtain rfl : s = [] := List.length_eq_zero_iff.1 (by omega)
    obtain rfl : [] = d := by simpa [decL] using hd
    exact Nat.le_refl _
  | n + 1, [], d, h, hd => by
    obtain rfl : [] = d := by simpa [decL] using hd
    exact Nat.le_refl _
  | n + 1, c :: r, d, h, hd => by
    by_cases h37 : c = 37
    · subst h37
      rcases r with _ | ⟨a, _ | ⟨b, r⟩⟩
      · simp [decL] at hd
      · simp [decL] at hd
      · rw [decL_pct] at hd
        by_cases hx : 15 < hexN a ∨ 15 < hexN b
        · rw [if_pos hx] at hd; simp at hd
        · rw [if_neg hx] at hd
          obtain ⟨x, hx, rfl⟩ := Option.map_eq_some_iff.1 hd
          have := decT_len plus n (s := r) (by simp at h; omega) hx
          simp; omega
    · rw [decL_other plus r h37] at hd
      obtain ⟨x, hx, rfl⟩ := Option.map_eq_some_iff.1 hd
      have := decT_len plus n (s := r) (by simp at h; omega) hx
      simp; omega
set_option maxRecDepth 100000 in
set_option maxHeartbeats 4000000 in
theorem decoded_any (plus : Bool) (s : List UInt8) (w : World) (hT : Tab w) (hs : s.length ≤ 600000) : Calls Tryz.prog 137 #[.string ⟨s.toArray⟩, .bool plus] w (DecT (decL plus s) w) := by
  rw [decL_goD]
  have hgk : Hid (3 < w.heap.size) := Lib.hid hT.lt
  have hT' := Lib.hid hT
  obtain ⟨i, hi, hz, hz1, hz2⟩ := info_parts infoB
  obtain ⟨w2, hrun, hown, hgr⟩ := run_make_own (P := Tryz.prog) (w := w.alloc (.cells #[.string ⟨s.toArray⟩, .bool plus] 186)) (w.heap.size + 1) 86 5 i _ 1 Tryz.underlying86 hi hz hz1 .i64 .i64 s.length (by rw [hz2]; omega) (by simp only [maxLen]; omega) (by simp)
  have hnew := Has.new w 186 #[.string ⟨s.toArray⟩, .bool plus]
  have hn2 : Hid (RdT w2 w.heap.size s plus) := Lib.hid (hgr.block w.heap.size (by simp) (by simp) |>.trans hnew)
  have hb2 : Hid (Below w.heap.size w w2) := Lib.hid (((Below.refl _ w).alloc (Nat.le_refl _) _).grown hgr (by simp) (by intro k hk; cases hk))
  have hown' : Hid (Bs w2 (w.heap.size + 1) (.slice (some ⟨(w.alloc (.cells #[.string ⟨s.toArray⟩, .bool plus] 186)).heap.size, 0, none⟩) 0 s.length) []) := Lib.hid hown
  rw [World.size_alloc] at hrun hown'
  clear hnew hgr hown hi hz hz1 hz2 hT
  have hsI : (s.length : Int) ≤ 600000 := by omega
  go_enter Tryz.func137, Tryz.ntmps137
  go_wp2
  go_loopw [6] (fun v W => ∃ (done r : List UInt8), RdT W w.heap.size r plus ∧ Bs W (w.heap.size + 1) v done ∧ goD plus [] s = goD plus done r ∧ done.length + r.length ≤ s.length ∧ Below w.heap.size w W) (fun v _ => s.length - lenV v)
  case atStart => exact ⟨[], s, hn2.out, hown'.out, rfl, by simp, hb2.out⟩
  case round =>
    obtain ⟨done, r, hrd, hbs, hgo, hdl, hb⟩ := hrel
    have hb' := Lib.hid hb
    have hz3 := Lib.hid hb.size
    obtain ⟨Av, cv, hv, hrdv⟩ := hbs.shape
    subst hv
    have hbs' := Lib.hid hbs
    have hcv := Lib.hid (hrdv.text (P := Tryz.prog) 86 9 5 cv Tryz.underlying86 Tryz.underlying5 Tryz.underlying9)
    have hrd' := Lib.hid hrd
    have hkz := hrd.lt
    clear hbs hb hrdv hrun hn2 hb2 hown' hrd
    cases r with
    | nil =>
      have h0 := Lib.hid (endedT_yes w.heap.size plus wr hrd'.out)
      have hgo' := Lib.hid (hgo.trans (goD_nil plus done))
      have hcv' := hcv.out
      clear hgo hcv
      go_wp2_with (go_at_call 165; (with_reducible refine Calls.mono h0.out ?_); rintro e w7 ⟨rfl, hw7⟩; obtain rfl := hw7.symm)
      go_ret
      rw [hgo'.out]
      exact ⟨rfl, hb'.out⟩
    | cons c r =>
      have hl : done.length + r.length + 1 ≤ s.length := by simp at hdl; omega
      have h0 := Lib.hid (endedT_no w.heap.size c r plus wr hrd'.out)
      have h1 := Lib.hid (nextT_any plus c w.heap.size r wr (hT'.out.below hb'.out) (by omega) hrd'.out hgk.out)
      obtain ⟨o, ho⟩ : ∃ o, nextL plus (c :: r) = o := ⟨_, rfl⟩
      rw [ho] at h1
      cases o with
      | none =>
        have hgo' := Lib.hid (hgo.trans (goD_none done ho))
        simp only at h1
        clear hgo hcv ho
        go_wp2_with (first
          | (go_at_call 165; (with_reducible refine Calls.mono h0.out ?_); rintro e w7 ⟨rfl, hw7⟩; obtain rfl := hw7.symm)
          | (go_at_call 166; (with_reducible refine Calls.mono h1.out ?_); rintro e w3 ⟨rfl, hb3⟩; have hb3' := Lib.hid hb3; clear hb3))
        rw [hgo'.out]
        exact ⟨rfl, rfl, hb'.out.trans (hb3'.out.lower hkz)⟩
      | some x =>
        obtain ⟨hg1, hg2⟩ := goD_next done ho
        have hgo' := Lib.hid (hgo.trans hg1)
        have hrl := Lib.hid hg2
        simp only at h1
        have hnewB : ∀ W : World, Hid (Rd (W.alloc (.cells #[.int .u8 (x.1.toNat : Int)] 5)) (· = W.heap.size) (some ⟨W.heap.size, 0, none⟩) [x.1]) := fun W => Lib.hid (by have := new_byte W x.1.toNat x.1.toNat_lt; rwa [UInt8.ofNat_toNat] at this)
        have hbsA : ∀ W3, Grew w.heap.size wr W3 → Hid (Bs (W3.alloc (.cells #[.int .u8 (x.1.toNat : Int)] 5)) (w.heap.size + 1) (.slice Av done.length cv) done) := fun W3 h3 => Lib.hid (by
          have h4 := h3.alloc (.cells #[.int .u8 (x.1.toNat : Int)] 5)
          refine hbs'.out.kept fun g hg => ?_
          obtain ⟨e1, _, e2⟩ := hbs'.out.own g hg
          exact h4.block g e2.lt (by omega))
        clear hgo hcv ho hg1 hg2
        go_wp2_with (first
          | (go_at_call 165; (with_reducible refine Calls.mono h0.out ?_); rintro e w7 ⟨rfl, hw7⟩; obtain rfl := hw7.symm)
          | (go_at_call 166; (with_reducible refine Calls.mono h1.out ?_); rintro e w3 ⟨⟨rfl, hrd3⟩, hb3⟩; have hb3' := Lib.hid hb3; have hrd3' := Lib.hid hrd3; have hz4 := Lib.hid hb3.size; clear hb3 hrd3)
          | (at_builtin; refine wpList_append_rd rfl _ _ rfl rfl (hbsA _ hb3'.out).out (· = w3.heap.size) (some ⟨w3.heap.size, 0, none⟩) [x.1] 1 1 rfl rfl (hnewB w3).out (by simp; omega) (by have := hz4.out; simp; omega) ?_; intro v8 w8 ho8 hg8; have ho8' := Lib.hid ho8; have hg8' := Lib.hid hg8; clear ho8 hg8))
        have hG := (hb3'.out.alloc (.cells #[.int .u8 (x.1.toNat : Int)] 5)).lower hkz
        have hg9 : World.grownBy (w3.alloc (.cells #[.int .u8 (x.1.toNat : Int)] 5)) w8 (Value.slice Av done.length cv).ownBlock := hg8'.out
        have hk3 := hrd3'.out.lt
        have hown : ∀ g, (Value.slice Av done.length cv).ownBlock = some g → w.heap.size + 1 ≤ g := fun g e => (hbs'.out.own g e).1
        have hrd8 : RdT w8 w.heap.size x.2 plus := by
          have h1 := hg9.block w.heap.size (by simp; omega) (fun e => by have := hown _ e.symm; omega)
          exact h1.trans (Has.alloc hrd3'.out _)
        have hB8 := (hb'.out.trans hG).grown hg9 (by have := hz4.out; simp; omega) (fun g e => by have := hown g e; omega)
        refine ⟨⟨done ++ [x.1], x.2, hrd8, ho8'.out, hgo'.out, ?_, hB8⟩, ?_⟩
        · have := hrl.out
          rw [List.length_append, List.length_singleton]
          omega
        · obtain ⟨A8, c8, e8, _⟩ := ho8'.out.shape
          rw [e8]
          simp only [lenV, List.length_append, List.length_singleton]
          omega
end Go.Proofs.YtbmemkbfignlaaaGreatDoor
