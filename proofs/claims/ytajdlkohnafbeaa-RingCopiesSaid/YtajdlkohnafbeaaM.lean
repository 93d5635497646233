import Derived.Test.YtajdlkohnafbeaaK
import Derived.Deep.RegionHeld3
namespace Go.Proofs.Ytajdlkohnafbeaa
open Go.RowKit

/-! ## The document's ring -/
section
variable {W W' : World} {S : Nat → Prop} {A : Option Addr} {l : List Int}
theorem Ints.kept (h : Ints W S A l) (k : Kept S W W') : Ints W' S A l := fun hl => by
  obtain ⟨b, o, e, hS, hc⟩ := h hl
  exact ⟨b, o, e, hS, fun j z hz => (World.cell?_of_block (a := ⟨b, o + j, none⟩) (k b hS)).trans (hc j z hz)⟩
theorem Ints.mono (h : Ints W S A l) {S' : Nat → Prop} (k : ∀ b, S b → S' b) : Ints W S' A l := fun hl => by
  obtain ⟨b, o, e, hS, hc⟩ := h hl
  exact ⟨b, o, e, k b hS, hc⟩
theorem Ints.nil (W : World) (S : Nat → Prop) (A : Option Addr) : Ints W S A [] := fun h => absurd h (by simp)
/-- What is left behind the first k. -/
theorem Ints.drop {b o : Nat} (h : Ints W S (some ⟨b, o, none⟩) l) (k : Nat) : Ints W S (some ⟨b, o + k, none⟩) (l.drop k) := fun hl => by
  rw [List.length_drop] at hl
  obtain ⟨b', o', e, hS, hc⟩ := h (by omega)
  injection e with e
  injection e with e1 e2
  subst e1; subst e2
  refine ⟨b, o + k, rfl, hS, fun j z hz => ?_⟩
  rw [List.getElem?_drop] at hz
  rw [Nat.add_assoc]
  exact hc _ z hz
theorem own_ints {B n cap b : Nat} {zs : List Int} (h : W.ownsRow B 3 1 (.slice (some ⟨b, 0, none⟩) n cap) n (ints zs)) : Ints W (fun k => B ≤ k ∧ k < W.heap.size) (some ⟨b, 0, none⟩) zs := fun _ => by
  have := World.ownsRow.lt h b rfl
  exact ⟨b, 0, rfl, ⟨this.1, this.2⟩, fun j z hz => by rw [Nat.zero_add]; exact own_at h hz⟩
end
/-- Its numbers stand in blocks of which S holds. -/
def Fine (W : World) (S : Nat → Prop) (A : Option Addr) (l : List Int) (c : Nat) : Prop := Ints W S A l ∧ l.length ≤ c ∧ c ≤ 9223372036854775807
theorem Fine.kept {W W' : World} {S : Nat → Prop} {A : Option Addr} {l : List Int} {c : Nat} (h : Fine W S A l c) (k : Kept S W W') : Fine W' S A l c := ⟨h.1.kept k, h.2⟩
theorem Fine.mono {W : World} {S S' : Nat → Prop} {A : Option Addr} {l : List Int} {c : Nat} (h : Fine W S A l c) (k : ∀ b, S b → S' b) : Fine W S' A l c := ⟨h.1.mono k, h.2⟩
/-- The document's ring, as a value. -/
def rv (A : Option Addr) (n c first most : Nat) : Value := .agg #[.slice A n c, .int .u64 (first : Int), .int .i64 (most : Int)]
theorem refNew_no (most : Int) (first : Nat) (w : World) (hr : most < 1 ∨ 4096 < most) :
    Calls Try.prog 9 #[.int .i64 most, .int .u64 (first : Int)] w fun e w' => e = .returned (.tuple #[rv none 0 0 0 0, .int .i64 2]) ∧ Below w.heap.size w w' := by
  unfold rv
  rcases hr with h0 | h0
  · go_enter Try.func9, Try.ntmps9
    go_wp2
    exact bodyPost_ret (v := .tuple #[.agg #[.slice none 0 0, .int .u64 0, .int .i64 0], .int .i64 2]) (by simp [results, Try.results9, go_sem]) rfl ⟨rfl, (((Below.refl w.heap.size w).alloc (Nat.le_refl _) _))⟩
  · have h1 : 1 ≤ most := by omega
    go_enter Try.func9, Try.ntmps9
    go_wp2
    exact bodyPost_ret (v := .tuple #[.agg #[.slice none 0 0, .int .u64 0, .int .i64 0], .int .i64 2]) (by simp [results, Try.results9, go_sem]) rfl ⟨rfl, (((Below.refl w.heap.size w).alloc (Nat.le_refl _) _))⟩
theorem refNew_ok (most first : Nat) (w : World) (h1 : 1 ≤ most) (h2 : most ≤ 4096) :
    Calls Try.prog 9 #[.int .i64 (most : Int), .int .u64 (first : Int)] w fun e w' => e = .returned (.tuple #[rv none 0 0 first most, .int .i64 0]) ∧ Below w.heap.size w w' := by
  unfold rv
  go_enter Try.func9, Try.ntmps9
  go_wp2
  exact bodyPost_ret (v := .tuple #[.agg #[.slice none 0 0, .int .u64 (first : Int), .int .i64 (most : Int)], .int .i64 0]) (by simp [results, Try.results9, go_sem]) rfl ⟨rfl, ((Below.refl w.heap.size w).alloc (Nat.le_refl _) _)⟩
theorem refNext_any (A : Option Addr) (n c first most N : Nat) (w : World) (hn : first + n = N) (hN : N ≤ 18446744073709551615) :
    Calls Try.prog 28 #[rv A n c first most] w fun e w' => e = .returned (.int .u64 (N : Int)) ∧ Below w.heap.size w w' := by
  unfold rv
  have h1 : (first : Int) + (n : Int) ≤ 18446744073709551615 := by omega
  have h2 : (n : Int) ≤ 18446744073709551615 := by omega
  have hn' := Lib.hid hn
  clear hn hN
  go_enter Try.func28, Try.ntmps28
  go_wp2
  go_ret
  exact ⟨ret_int (by have := hn'.out; omega), ((Below.refl w.heap.size w).alloc (Nat.le_refl _) _)⟩
theorem refHas_any (A : Option Addr) (n c first most i : Nat) (w : World) (hn : n ≤ 4096) (hi : i ≤ 18446744073709551615) :
    Calls Try.prog 43 #[rv A n c first most, .int .u64 (i : Int)] w fun e w' => e = .returned (.bool (decide (first ≤ i ∧ i < first + n))) ∧ Below w.heap.size w w' := by
  unfold rv
  by_cases h1 : first ≤ i
  · have h1i : (first : Int) ≤ (i : Int) := by omega
    have h2 : (i : Int) - (first : Int) ≤ 18446744073709551615 := by omega
    go_enter Try.func43, Try.ntmps43
    go_wp2
    go_ret
    exact ⟨ret_bool (decide_eq_decide.2 (by omega)), ((Below.refl w.heap.size w).alloc (Nat.le_refl _) _)⟩
  · have h1i : decide ((first : Int) ≤ (i : Int)) = false := decide_eq_false (by omega)
    have h1n : decide (first ≤ i) = false := decide_eq_false h1
    go_enter Try.func43, Try.ntmps43
    go_wp2
    go_ret
    exact ⟨ret_bool (decide_eq_false (by omega)).symm, ((Below.refl w.heap.size w).alloc (Nat.le_refl _) _)⟩
theorem refGet_any (A : Option Addr) (l : List Int) (n c first most i : Nat) (S : Nat → Prop) (w : World) (hp : Fine w S A l c) (hS : ∀ k, S k → k < w.heap.size) (hn : l.length = n) (hn2 : n ≤ 4096) (hi : i ≤ 18446744073709551615) :
    Calls Try.prog 27 #[rv A n c first most, .int .u64 (i : Int)] w fun e w' => e = .returned (.tuple #[.int .i64 (got first l i).1, .bool (got first l i).2]) ∧ Below w.heap.size w w' := by
  have hhas := refHas_any A n c first most i (w.alloc (.cells #[.slice A n c, .int .u64 (first : Int), .int .i64 (most : Int)] 31)) hn2 hi
  have hb := (Below.refl w.heap.size w).alloc (Nat.le_refl _) (.cells #[.slice A n c, .int .u64 (first : Int), .int .i64 (most : Int)] 31)
  have hk := Has.new w 31 #[.slice A n c, .int .u64 (first : Int), .int .i64 (most : Int)]
  have hpk := hp.kept (Kept.below hb hS)
  have hSl : ∀ k, S k → k < (w.alloc (.cells #[.slice A n c, .int .u64 (first : Int), .int .i64 (most : Int)] 31)).heap.size := fun k hk => Nat.lt_of_lt_of_le (hS k hk) hb.size
  unfold rv at hhas ⊢
  by_cases hin : first ≤ i ∧ i < first + n
  · obtain ⟨h1, h2⟩ := hin
    rw [decide_eq_true ⟨h1, h2⟩] at hhas
    have hhas' := Lib.hid hhas
    have hd : i - first < l.length := by omega
    have hgot := Lib.hid (got_yes (vs := l) h1 hd)
    obtain ⟨b, o, rfl, hSb, hc⟩ := hpk.1 (by omega)
    have hcz := hc (i - first) _ (List.getElem?_eq_getElem hd)
    generalize (l[i - first]'hd) = z at hgot hcz
    obtain ⟨j, hj⟩ : ∃ j, i - first = j := ⟨_, rfl⟩
    rw [hj] at hcz
    have hsub : (i : Int) - (first : Int) = (j : Int) := by omega
    have h1i : (first : Int) ≤ (i : Int) := by omega
    have hjn : (j : Int) < (n : Int) := by omega
    have hk' := Lib.hid hk
    have hb' := Lib.hid hb
    have hSb' := Lib.hid (hSl b hSb)
    clear hhas hk hb hpk hSl hp hS hn hd hc hSb hj h1 h2
    go_enter Try.func27, Try.ntmps27
    go_wp2_with fail
    generalize (w.alloc (.cells #[.slice (some ⟨b, o, none⟩) n c, .int .u64 (first : Int), .int .i64 (most : Int)] 31)) = w1 at hhas' hk' hb' hcz hSb' ⊢
    refine hhas'.out.mono ?_
    rintro e w2 ⟨rfl, hB2⟩
    have hk2 := hk'.out.below hB2 hk'.out.lt
    have e0 : w2.cell? ⟨w.heap.size, 0, none⟩ = some (.slice (some ⟨b, o, none⟩) n c) := hk2.cell 0
    have e1 : w2.cell? ⟨w.heap.size, 1, none⟩ = some (.int .u64 (first : Int)) := hk2.cell 1
    have ez : w2.cell? ⟨b, o + j, none⟩ = some (.int .i64 z) := (hB2.cell (p := ⟨b, o + j, none⟩) hSb'.out).trans hcz
    have hB3 := Lib.hid (hb'.out.trans (hB2.mono hb'.out.size))
    clear hk2 hB2 hhas' hcz
    go_wp2
    go_ret2
    exact ⟨by rw [hgot.out]; rfl, hB3.out⟩
  · rw [decide_eq_false hin] at hhas
    have hhas' := Lib.hid hhas
    have hgot := Lib.hid (got_no (vs := l) (by rw [hn]; exact hin))
    have hk' := Lib.hid hk
    have hb' := Lib.hid hb
    clear hhas hk hb hpk hSl hp hS hn hin
    go_enter Try.func27, Try.ntmps27
    go_wp2_with fail
    refine hhas'.out.mono ?_
    rintro e w2 ⟨rfl, hB2⟩
    have hB3 := Lib.hid (hb'.out.trans (hB2.mono hb'.out.size))
    clear hB2
    go_wp2
    go_ret2
    exact ⟨by rw [hgot.out]; rfl, hB3.out⟩
/-- Where the values begin, and which. -/
def fromAt (first : Nat) (l : List Int) (i : Nat) : Nat × List Int := if i ≤ first then (first, l) else if i < first + l.length then (i, l.drop (i - first)) else (i, [])
def RFromOf (S : Nat → Prop) (s : Nat) (zs : List Int) (w : World) (e : Ending) (w' : World) : Prop :=
  ∃ B d, e = .returned (.tuple #[.int .u64 (s : Int), .slice B zs.length d]) ∧ Fine w' S B zs d ∧ Below w.heap.size w w'
theorem refFrom_any (A : Option Addr) (l : List Int) (n c first most i : Nat) (S : Nat → Prop) (w : World) (hp : Fine w S A l c) (hS : ∀ k, S k → k < w.heap.size) (hn : l.length = n) (hn2 : n ≤ 4096) (hi : i ≤ 18446744073709551615) :
    Calls Try.prog 29 #[rv A n c first most, .int .u64 (i : Int)] w (RFromOf S (fromAt first l i).1 (fromAt first l i).2 w) := by
  have hhas := refHas_any A n c first most i (w.alloc (.cells #[.slice A n c, .int .u64 (first : Int), .int .i64 (most : Int)] 31)) hn2 hi
  have hb := (Below.refl w.heap.size w).alloc (Nat.le_refl _) (.cells #[.slice A n c, .int .u64 (first : Int), .int .i64 (most : Int)] 31)
  have hk := Has.new w 31 #[.slice A n c, .int .u64 (first : Int), .int .i64 (most : Int)]
  have hpk := hp.kept (Kept.below hb hS)
  unfold rv at hhas ⊢
  by_cases h0 : i ≤ first
  · have hfa : fromAt first l i = (first, l) := if_pos h0
    have h0i : (i : Int) ≤ (first : Int) := by omega
    rw [hfa]
    have hb' := Lib.hid hb
    have hpk' := Lib.hid hpk
    have hn' := Lib.hid hn
    clear hhas hk hb hpk hp hS hn h0 hfa
    go_enter Try.func29, Try.ntmps29
    go_wp2_with fail
    go_quiet (fail)
    go_wp2
    go_ret2
    exact ⟨A, c, by rw [hn'.out]; rfl, hpk'.out.kept (fun _ _ => rfl), below_draws hb'.out _⟩
  · have h1i : decide ((i : Int) ≤ (first : Int)) = false := decide_eq_false (by omega)
    have h1n : decide (i ≤ first) = false := decide_eq_false h0
    by_cases hin : i < first + n
    · have hfa : fromAt first l i = (i, l.drop (i - first)) := by unfold fromAt; rw [if_neg h0, if_pos (by omega)]
      rw [decide_eq_true ⟨by omega, hin⟩] at hhas
      rw [hfa]
      have hhas' := Lib.hid hhas
      obtain ⟨b, o, rfl, hSb, hc⟩ := hpk.1 (by omega)
      obtain ⟨j, hj⟩ : ∃ j, i - first = j := ⟨_, rfl⟩
      have hsub : (i : Int) - (first : Int) = (j : Int) := by omega
      have h1f : (first : Int) ≤ (i : Int) := by omega
      have hjn : (j : Int) ≤ (n : Int) := by omega
      have hnc : (n : Int) ≤ (c : Int) := by have := hpk.2.1; omega
      have hcm : ¬ c = j := by have := hpk.2.1; omega
      have hk' := Lib.hid hk
      have hb' := Lib.hid hb
      have hn' := Lib.hid hn
      have hpk' := Lib.hid hpk
      have hj' := Lib.hid hj
      have hS' := Lib.hid hS
      clear hhas hk hb hpk hp hS hn hc hSb hj h0 hin hfa
      go_enter Try.func29, Try.ntmps29
      go_wp2_with fail
      generalize (w.alloc (.cells #[.slice (some ⟨b, o, none⟩) n c, .int .u64 (first : Int), .int .i64 (most : Int)] 31)) = w1 at hhas' hk' hb' hpk' ⊢
      refine hhas'.out.mono ?_
      rintro e w2 ⟨rfl, hB2⟩
      have hk2 := hk'.out.below hB2 hk'.out.lt
      have e0 : w2.cell? ⟨w.heap.size, 0, none⟩ = some (.slice (some ⟨b, o, none⟩) n c) := hk2.cell 0
      have e1 : w2.cell? ⟨w.heap.size, 1, none⟩ = some (.int .u64 (first : Int)) := hk2.cell 1
      have hB3 := Lib.hid (hb'.out.trans (hB2.mono hb'.out.size))
      have hp2 := Lib.hid (hpk'.out.kept (Kept.below hB2 (fun k hk => Nat.lt_of_lt_of_le (hS'.out k hk) hb'.out.size)))
      clear hk2 hB2 hhas'
      go_wp2
      go_quiet (fail)
      go_wp2
      go_ret2
      have hl := hn'.out
      rw [hj'.out]
      refine ⟨some ⟨b, o + j, none⟩, c - j, by rw [List.length_drop, hl]; rfl, ⟨(hp2.out.1.drop j).kept (fun _ _ => rfl), by rw [List.length_drop, hl]; omega, ?_⟩, below_draws hB3.out _⟩
      have := hp2.out.2.2
      omega
    · have hfa : fromAt first l i = (i, []) := by unfold fromAt; rw [if_neg h0, if_neg (by omega)]
      rw [decide_eq_false (fun h => hin h.2)] at hhas
      rw [hfa]
      have hhas' := Lib.hid hhas
      have hb' := Lib.hid hb
      clear hhas hk hb hpk hp hS hn h0 hin hfa
      go_enter Try.func29, Try.ntmps29
      go_wp2_with fail
      refine hhas'.out.mono ?_
      rintro e w2 ⟨rfl, hB2⟩
      have hB3 := Lib.hid (hb'.out.trans (hB2.mono hb'.out.size))
      clear hB2
      go_wp2
      go_ret2
      exact ⟨none, 0, rfl, ⟨Ints.nil _ _ _, Nat.le_refl _, by simp⟩, hB3.out⟩
def RDropOf (S : Nat → Prop) (first most : Nat) (zs : List Int) (v : Int) (had : Bool) (w : World) (e : Ending) (w' : World) : Prop :=
  ∃ B d, e = .returned (.tuple #[rv B zs.length d first most, .int .i64 v, .bool had]) ∧ Fine w' S B zs d ∧ Below w.heap.size w w'
theorem refDrop_none (A : Option Addr) (c first most : Nat) (S : Nat → Prop) (w : World) (hp : Fine w S A [] c) (hS : ∀ k, S k → k < w.heap.size) :
    Calls Try.prog 25 #[rv A 0 c first most] w (RDropOf S first most [] 0 false w) := by
  unfold rv
  have hp' := Lib.hid hp
  have hS' := Lib.hid hS
  clear hp hS
  go_enter Try.func25, Try.ntmps25
  go_wp2
  have hb : Below w.heap.size w ((w.alloc (.cells #[.slice A 0 c, .int .u64 (first : Int), .int .i64 (most : Int)] 31)).alloc (.cells #[.slice A 0 c, .int .u64 (first : Int), .int .i64 (most : Int)] 31)) := ((Below.refl w.heap.size w).alloc (Nat.le_refl _) _).alloc (by simp) _
  refine bodyPost_ret (v := .tuple #[.agg #[.slice A 0 c, .int .u64 (first : Int), .int .i64 (most : Int)], .int .i64 0, .bool false]) (by simp [results, Try.results25, go_sem]) rfl ⟨A, c, rfl, hp'.out.kept (Kept.below hb hS'.out), hb⟩
set_option maxRecDepth 100000 in
set_option maxHeartbeats 1000000 in
theorem refDrop_any (A : Option Addr) (l : List Int) (v : Int) (n c first most : Nat) (S : Nat → Prop) (w : World) (hp : Fine w S A (v :: l) c) (hS : ∀ k, S k → k < w.heap.size) (hn : l.length + 1 = n) (hn2 : n ≤ 4096) (hf : first + n ≤ 18446744073709551615) :
    Calls Try.prog 25 #[rv A n c first most] w (RDropOf S (first + 1) most l v true w) := by
  unfold rv
  obtain ⟨b, o, rfl, hSb, hc⟩ := hp.1 (by simp)
  have hcz : w.cell? ⟨b, o, none⟩ = some (.int .i64 v) := hc 0 v rfl
  have hbl := hS b hSb
  have hnc : (n : Int) ≤ (c : Int) := by have := hp.2.1; simp only [List.length_cons] at this; omega
  have h1n : (1 : Int) ≤ (n : Int) := by omega
  have h1c : (1 : Int) ≤ (c : Int) := by omega
  have hne : ((n : Int) == 0) = false := by rw [beq_eq_false_iff_ne]; omega
  have hfb : IntKind.u64.wrap ((first : Int) + 1) = (first : Int) + 1 := by rw [IntKind.wrap_u64]; omega
  have h0n : (0 : Int) < (n : Int) := by omega
  have h0nn : 0 < n := by omega
  by_cases hc1 : c = 1
  · obtain rfl : n = 1 := by omega
    subst hc1
    have hp' := Lib.hid hp
    have hS' := Lib.hid hS
    have hn' := Lib.hid hn
    clear hp hS hn hSb hc
    go_enter Try.func25, Try.ntmps25
    go_wp2
    have k1 := Has.new (w.alloc (.cells #[.slice (some ⟨b, o, none⟩) 1 1, .int .u64 (first : Int), .int .i64 (most : Int)] 31)) 31 #[.slice none 0 0, .int .u64 0, .int .i64 0]
    have k0 := (Has.new w 31 #[.slice (some ⟨b, o, none⟩) 1 1, .int .u64 (first : Int), .int .i64 (most : Int)]).alloc (.cells #[.slice none 0 0, .int .u64 0, .int .i64 0] 31)
    have hB := ((Below.refl w.heap.size w).alloc (Nat.le_refl _) (.cells #[.slice (some ⟨b, o, none⟩) 1 1, .int .u64 (first : Int), .int .i64 (most : Int)] 31)).alloc (by simp) (.cells #[.slice none 0 0, .int .u64 0, .int .i64 0] 31)
    simp only [World.size_alloc] at k1
    generalize (w.alloc (.cells #[.slice (some ⟨b, o, none⟩) 1 1, .int .u64 (first : Int), .int .i64 (most : Int)] 31)).alloc (.cells #[.slice none 0 0, .int .u64 0, .int .i64 0] 31) = w2 at k0 k1 hB ⊢
    have e0 : w2.drew.cell? ⟨w.heap.size, 0, none⟩ = some (.slice (some ⟨b, o, none⟩) 1 1) := k0.cell 0
    have e1 : w2.drew.cell? ⟨w.heap.size, 1, none⟩ = some (.int .u64 (first : Int)) := k0.cell 1
    have e2 : w2.drew.cell? ⟨w.heap.size, 2, none⟩ = some (.int .i64 (most : Int)) := k0.cell 2
    have ez : w2.drew.cell? ⟨b, o, none⟩ = some (.int .i64 v) := (hB.cell (p := ⟨b, o, none⟩) hbl).trans hcz
    have d0 : w2.cell? ⟨w.heap.size + 1, 0, none⟩ = some (.slice none 0 0) := k1.cell 0
    have d1 : w2.cell? ⟨w.heap.size + 1, 1, none⟩ = some (.int .u64 0) := k1.cell 1
    have d2 : w2.cell? ⟨w.heap.size + 1, 2, none⟩ = some (.int .i64 0) := k1.cell 2
    have f0 : w2.frozen? ⟨w.heap.size + 1, 0, none⟩ = false := k1.free 0
    have f1 : w2.frozen? ⟨w.heap.size + 1, 1, none⟩ = false := k1.free 1
    have f2 : w2.frozen? ⟨w.heap.size + 1, 2, none⟩ = false := k1.free 2
    have hB' := Lib.hid hB
    have k1' := Lib.hid k1
    clear k0 k1 hB hcz
    have honly : Hid (∀ u0 u1 u2, Only (w.heap.size + 1) w2 (((w2.setCell ⟨w.heap.size + 1, 0, none⟩ u0).setCell ⟨w.heap.size + 1, 1, none⟩ u1).setCell ⟨w.heap.size + 1, 2, none⟩ u2)) := fun u0 u1 u2 => ((only_setCell (w.heap.size + 1) 0 w2 u0).trans (only_setCell (w.heap.size + 1) 1 _ u1)).trans (only_setCell (w.heap.size + 1) 2 _ u2)
    go_region_held3 (fun w' => w'.cell? ⟨w.heap.size, 0, none⟩ = some (.slice (some ⟨b, o, none⟩) 1 1) ∧ w'.cell? ⟨w.heap.size, 1, none⟩ = some (.int .u64 (first : Int)) ∧ w'.cell? ⟨w.heap.size, 2, none⟩ = some (.int .i64 (most : Int)) ∧ w'.cell? ⟨b, o, none⟩ = some (.int .i64 v))
      (first | exact ⟨e0, e1, e2, ez⟩ | exact ⟨(World.cell?_of_block (a := ⟨w.heap.size, 0, none⟩) ((honly.out _ _ _).block w.heap.size (by show w.heap.size ≠ _; omega))).trans e0, (World.cell?_of_block (a := ⟨w.heap.size, 1, none⟩) ((honly.out _ _ _).block w.heap.size (by show w.heap.size ≠ _; omega))).trans e1, (World.cell?_of_block (a := ⟨w.heap.size, 2, none⟩) ((honly.out _ _ _).block w.heap.size (by show w.heap.size ≠ _; omega))).trans e2, (World.cell?_of_block (a := ⟨b, o, none⟩) ((honly.out _ _ _).block b (by show b ≠ _; omega))).trans ez⟩)
      (fail)
    go_wp2
    have hF0 := k1'.out.put 0 (.slice (some ⟨b, o, none⟩) (0) (0))
    have hF1 := hF0.put 1 (.int .u64 ((first : Int) + 1))
    have hF2 := hF1.put 2 (.int .i64 (most : Int))
    have x0 := hF0.cell 0
    have x1 := hF1.cell 1
    have x2 := hF2.cell 2
    simp at x0 x1 x2
    refine bodyPost_ret (v := .tuple #[.agg #[.slice (some ⟨b, o, none⟩) (0) (0), .int .u64 ((first : Int) + 1), .int .i64 (most : Int)], .int .i64 v, .bool true]) (by simp [results, Try.results25, go_sem, x0, x1, x2]) rfl ?_
    have hB2 := ((((hB'.out.setCell (p := ⟨w.heap.size + 1, 0, none⟩) (by simp) (.slice (some ⟨b, o, none⟩) (0) (0))).setCell (p := ⟨w.heap.size + 1, 1, none⟩) (by simp) (.int .u64 ((first : Int) + 1))).setCell (p := ⟨w.heap.size + 1, 2, none⟩) (by simp) (.int .i64 (most : Int))).drew)
    have hK := (hp'.out).kept (Kept.below hB2 hS'.out)
    obtain rfl : l = [] := List.eq_nil_of_length_eq_zero (by have := hn'.out; omega)
    exact ⟨some ⟨b, o, none⟩, 0, rfl, ⟨Ints.nil _ _ _, Nat.le_refl _, by simp⟩, hB2⟩
  · skip
    have hp' := Lib.hid hp
    have hS' := Lib.hid hS
    have hn' := Lib.hid hn
    clear hp hS hn hSb hc
    go_enter Try.func25, Try.ntmps25
    go_wp2
    have k1 := Has.new (w.alloc (.cells #[.slice (some ⟨b, o, none⟩) n c, .int .u64 (first : Int), .int .i64 (most : Int)] 31)) 31 #[.slice none 0 0, .int .u64 0, .int .i64 0]
    have k0 := (Has.new w 31 #[.slice (some ⟨b, o, none⟩) n c, .int .u64 (first : Int), .int .i64 (most : Int)]).alloc (.cells #[.slice none 0 0, .int .u64 0, .int .i64 0] 31)
    have hB := ((Below.refl w.heap.size w).alloc (Nat.le_refl _) (.cells #[.slice (some ⟨b, o, none⟩) n c, .int .u64 (first : Int), .int .i64 (most : Int)] 31)).alloc (by simp) (.cells #[.slice none 0 0, .int .u64 0, .int .i64 0] 31)
    simp only [World.size_alloc] at k1
    generalize (w.alloc (.cells #[.slice (some ⟨b, o, none⟩) n c, .int .u64 (first : Int), .int .i64 (most : Int)] 31)).alloc (.cells #[.slice none 0 0, .int .u64 0, .int .i64 0] 31) = w2 at k0 k1 hB ⊢
    have e0 : w2.drew.cell? ⟨w.heap.size, 0, none⟩ = some (.slice (some ⟨b, o, none⟩) n c) := k0.cell 0
    have e1 : w2.drew.cell? ⟨w.heap.size, 1, none⟩ = some (.int .u64 (first : Int)) := k0.cell 1
    have e2 : w2.drew.cell? ⟨w.heap.size, 2, none⟩ = some (.int .i64 (most : Int)) := k0.cell 2
    have ez : w2.drew.cell? ⟨b, o, none⟩ = some (.int .i64 v) := (hB.cell (p := ⟨b, o, none⟩) hbl).trans hcz
    have d0 : w2.cell? ⟨w.heap.size + 1, 0, none⟩ = some (.slice none 0 0) := k1.cell 0
    have d1 : w2.cell? ⟨w.heap.size + 1, 1, none⟩ = some (.int .u64 0) := k1.cell 1
    have d2 : w2.cell? ⟨w.heap.size + 1, 2, none⟩ = some (.int .i64 0) := k1.cell 2
    have f0 : w2.frozen? ⟨w.heap.size + 1, 0, none⟩ = false := k1.free 0
    have f1 : w2.frozen? ⟨w.heap.size + 1, 1, none⟩ = false := k1.free 1
    have f2 : w2.frozen? ⟨w.heap.size + 1, 2, none⟩ = false := k1.free 2
    have hB' := Lib.hid hB
    have k1' := Lib.hid k1
    clear k0 k1 hB hcz
    have honly : Hid (∀ u0 u1 u2, Only (w.heap.size + 1) w2 (((w2.setCell ⟨w.heap.size + 1, 0, none⟩ u0).setCell ⟨w.heap.size + 1, 1, none⟩ u1).setCell ⟨w.heap.size + 1, 2, none⟩ u2)) := fun u0 u1 u2 => ((only_setCell (w.heap.size + 1) 0 w2 u0).trans (only_setCell (w.heap.size + 1) 1 _ u1)).trans (only_setCell (w.heap.size + 1) 2 _ u2)
    go_region_held3 (fun w' => w'.cell? ⟨w.heap.size, 0, none⟩ = some (.slice (some ⟨b, o, none⟩) n c) ∧ w'.cell? ⟨w.heap.size, 1, none⟩ = some (.int .u64 (first : Int)) ∧ w'.cell? ⟨w.heap.size, 2, none⟩ = some (.int .i64 (most : Int)) ∧ w'.cell? ⟨b, o, none⟩ = some (.int .i64 v))
      (first | exact ⟨e0, e1, e2, ez⟩ | exact ⟨(World.cell?_of_block (a := ⟨w.heap.size, 0, none⟩) ((honly.out _ _ _).block w.heap.size (by show w.heap.size ≠ _; omega))).trans e0, (World.cell?_of_block (a := ⟨w.heap.size, 1, none⟩) ((honly.out _ _ _).block w.heap.size (by show w.heap.size ≠ _; omega))).trans e1, (World.cell?_of_block (a := ⟨w.heap.size, 2, none⟩) ((honly.out _ _ _).block w.heap.size (by show w.heap.size ≠ _; omega))).trans e2, (World.cell?_of_block (a := ⟨b, o, none⟩) ((honly.out _ _ _).block b (by show b ≠ _; omega))).trans ez⟩)
      (fail)
    go_wp2
    have hF0 := k1'.out.put 0 (.slice (some ⟨b, o + 1, none⟩) (n - 1) (c - 1))
    have hF1 := hF0.put 1 (.int .u64 ((first : Int) + 1))
    have hF2 := hF1.put 2 (.int .i64 (most : Int))
    have x0 := hF0.cell 0
    have x1 := hF1.cell 1
    have x2 := hF2.cell 2
    simp at x0 x1 x2
    refine bodyPost_ret (v := .tuple #[.agg #[.slice (some ⟨b, o + 1, none⟩) (n - 1) (c - 1), .int .u64 ((first : Int) + 1), .int .i64 (most : Int)], .int .i64 v, .bool true]) (by simp [results, Try.results25, go_sem, x0, x1, x2]) rfl ?_
    have hB2 := ((((hB'.out.setCell (p := ⟨w.heap.size + 1, 0, none⟩) (by simp) (.slice (some ⟨b, o + 1, none⟩) (n - 1) (c - 1))).setCell (p := ⟨w.heap.size + 1, 1, none⟩) (by simp) (.int .u64 ((first : Int) + 1))).setCell (p := ⟨w.heap.size + 1, 2, none⟩) (by simp) (.int .i64 (most : Int))).drew)
    have hK := (hp'.out).kept (Kept.below hB2 hS'.out)
    have hl1 : l.length = n - 1 := by have := hn'.out; omega
    refine ⟨some ⟨b, o + 1, none⟩, c - 1, by unfold rv; rw [hl1]; rfl, ⟨hK.1.drop 1, ?_, ?_⟩, hB2⟩
    · omega
    · have := hK.2.2; omega
end Go.Proofs.Ytajdlkohnafbeaa
