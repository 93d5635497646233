import Derived.Test.YtbmemkbfignlaaaGreatDoorPk29
import Derived.Test.YtbmemkbfignlaaaGreatDoorPk1
import Derived.Test.YtbmemkbfignlaaaGreatDoorPk43
import Derived.KernelRfl
import Derived.WalkMore
import Derived.BigRegionIn
import Derived.Shelf.Abstract
import Derived.RangeFuncNested
import Derived.RangeFuncBox
import Derived.RangeFuncBound
import Derived.RangeFuncCalls
import Derived.RangeFuncLeaves
import Derived.WalkKit
import Derived.OwnWalkIn
import Derived.TacticsInMore
import Derived.LoopNIn
import Derived.LoopIn
import Derived.Lib.Hide
import Derived.Shelf.RegionOpen
import Derived.RangeFuncRecord
import Derived.Test.YtbmemkbfignlaaaGreatDoorPk27
namespace Go.Proofs.YtbmemkbfignlaaaGreatDoor
open Go.RowKit Go.Shelf
attribute [local go_sem] Oper.semAt_some

/-! ## A parameter: its name and value -/
theorem ahead_cases (c : UInt8) (s : List UInt8) : (aheadL c s false = s) ∨ (aheadL c s false).length < s.length := by
  unfold aheadL
  cases h : findL c s false with
  | none => exact .inl rfl
  | some r =>
    have := Ac.sp_find c false s
    rw [h] at this
    have := this.2
    refine .inr ?_
    simp; omega
def paramP (hd : Bool) (n v : List UInt8) : Option (List UInt8 × List UInt8) := if tokenL n = true then (if hd = true then (if tokenL v = true then some (lowerL n, v) else (quotedL v).map fun t => (lowerL n, t)) else some (lowerL n, v)) else none
/-- What a cut tells, and what a parameter is by it. -/
theorem cut_param (s : List UInt8) (w : World) (hs : s.length ≤ 1000000) : ∃ hd n v, n.length ≤ s.length ∧ v.length ≤ s.length ∧ Ac.param s = paramP hd n v ∧
    Calls Tryz.prog 231 #[.string ⟨s.toArray⟩, .int .u8 61] w fun e w' => e = .returned (.tuple #[.string ⟨n.toArray⟩, .string ⟨v.toArray⟩, .bool hd]) ∧ Below w.heap.size w w' := by
  have l1 := trimL_len (aheadL 61 s false)
  have l2 := trimL_len s
  rcases ahead_cases 61 s with h | h
  · refine ⟨false, trimL s, [], l2, by simp, ?_, ?_⟩
    · rw [Ac.param_eq, h, if_neg (Nat.lt_irrefl _)]
      unfold paramP
      simp
    · exact cut_not s s 61 w hs h rfl
  · have l3 := trimL_len (s.drop ((aheadL 61 s false).length + 1))
    refine ⟨true, trimL (aheadL 61 s false), trimL (s.drop ((aheadL 61 s false).length + 1)), by omega, by simp at l3; omega, ?_, ?_⟩
    · rw [Ac.param_eq, if_pos h]
      unfold paramP
      simp
    · have hc := tkCut_any s (aheadL 61 s false) 61 w hs rfl h
      unfold CutR at hc
      exact hc
def PairA (o : Option (List UInt8 × List UInt8)) (w : World) (e : Ending) (w' : World) : Prop := (match o with
  | some x => e = .returned (.tuple #[.string ⟨x.1.toArray⟩, .string ⟨x.2.toArray⟩])
  | none => e = gaveEA) ∧ Below w.heap.size w w'
theorem pairA_no {o : Option (List UInt8 × List UInt8)} {w w' : World} (h : o = none) (hb : Below w.heap.size w w') : PairA o w gaveEA w' := by subst h; exact ⟨rfl, hb⟩
theorem pairA_yes {o : Option (List UInt8 × List UInt8)} {n v : List UInt8} {w w' : World} (h : o = some (n, v)) (hb : Below w.heap.size w w') : PairA o w (.returned (.tuple #[.string ⟨n.toArray⟩, .string ⟨v.toArray⟩])) w' := by subst h; exact ⟨rfl, hb⟩
set_option maxRecDepth 100000 in
set_option maxHeartbeats 2000000 in
theorem pair_anyA (s : List UInt8) (w : World) (hs : s.length ≤ 1000000) : Calls Tryz.prog 225 #[.string ⟨s.toArray⟩] w (PairA (Ac.param s) w) := by
  obtain ⟨hd, n, v, hn, hv, hp, hc⟩ := cut_param s w hs
  rw [hp]
  have h1 := fun W => token_any n W (by omega)
  have h2 := fun W => token_any v W (by omega)
  have h3 := fun W => quoted_any v W (by omega)
  have h4 := fun W => lower_any n W (by omega)
  unfold BoolR at h1 h2
  unfold QuotR at h3
  unfold StrR at h4
  have hc' := Lib.hid hc
  have h4' := Lib.hid h4
  clear hp hc hn hv h4 hs
  cases ht : tokenL n with
  | false =>
    have hno := Lib.hid (show paramP hd n v = none by unfold paramP; rw [ht]; rfl)
    rw [ht] at h1
    have h1' := Lib.hid h1
    clear h1 h2 h3 ht
    go_enter Tryz.func225, Tryz.ntmps225
    go_wp2_with (first
      | (go_at_call 231; (with_reducible refine Calls.mono hc'.out ?_); rintro e w1 ⟨rfl, hb1⟩; have hb1' := Lib.hid hb1; clear hb1)
      | (go_at_call 111; (with_reducible refine Calls.mono (h1'.out _) ?_); rintro e w2 ⟨rfl, hb2⟩; have hb2' := Lib.hid (below_on hb1'.out hb2); clear hb2)
      | (go_at_call 202; (with_reducible refine Calls.mono (mustA_no _) ?_); rintro e w3 ⟨rfl, hw3⟩; obtain rfl := hw3.symm))
    exact ⟨rfl, pairA_no hno.out hb2'.out⟩
  | true =>
    rw [ht] at h1
    have h1' := Lib.hid h1
    clear h1
    cases hd with
    | false =>
      have hyes := Lib.hid (show paramP false n v = some (lowerL n, v) by unfold paramP; rw [ht]; rfl)
      clear h2 h3 ht
      generalize lowerL n = ln at *
      go_enter Tryz.func225, Tryz.ntmps225
      go_wp2_with (first
        | (go_at_call 231; (with_reducible refine Calls.mono hc'.out ?_); rintro e w1 ⟨rfl, hb1⟩; have hb1' := Lib.hid hb1; clear hb1)
        | (go_at_call 111; (with_reducible refine Calls.mono (h1'.out _) ?_); rintro e w2 ⟨rfl, hb2⟩; have hb2' := Lib.hid (below_on hb1'.out hb2); clear hb2)
        | (go_at_call 202; (with_reducible refine Calls.mono (mustA_yes _) ?_); rintro e w3 ⟨rfl, hw3⟩; obtain rfl := hw3.symm)
        | (go_at_call 112; (with_reducible refine Calls.mono (h4'.out _) ?_); rintro e w4 ⟨rfl, hb4⟩; have hb4' := Lib.hid (below_on hb2'.out hb4); clear hb4))
      go_ret2
      exact pairA_yes hyes.out hb4'.out
    | true =>
      cases hv : tokenL v with
      | true =>
        have hyes := Lib.hid (show paramP true n v = some (lowerL n, v) by unfold paramP; rw [ht, hv]; rfl)
        rw [hv] at h2
        have h2' := Lib.hid h2
        clear h2 h3 ht hv
        generalize lowerL n = ln at *
        go_enter Tryz.func225, Tryz.ntmps225
        go_wp2_with (first
          | (go_at_call 231; (with_reducible refine Calls.mono hc'.out ?_); rintro e w1 ⟨rfl, hb1⟩; have hb1' := Lib.hid hb1; clear hb1)
          | (go_at_call 202; (with_reducible refine Calls.mono (mustA_yes _) ?_); rintro e w3 ⟨rfl, hw3⟩; obtain rfl := hw3.symm)
          | (go_at_call 112; (with_reducible refine Calls.mono (h4'.out _) ?_); rintro e w4 ⟨rfl, hb4⟩; have hb4' := Lib.hid (below_on hb5'.out hb4); clear hb4)
          | (have := hb2'.out; go_at_call 111; (with_reducible refine Calls.mono (h2'.out _) ?_); rintro e w5 ⟨rfl, hb5⟩; have hb5' := Lib.hid (below_on hb2'.out hb5); clear hb5 this)
          | (go_at_call 111; (with_reducible refine Calls.mono (h1'.out _) ?_); rintro e w2 ⟨rfl, hb2⟩; have hb2' := Lib.hid (below_on hb1'.out hb2); clear hb2))
        go_ret2
        exact pairA_yes hyes.out hb4'.out
      | false =>
        rw [hv] at h2
        have h2' := Lib.hid h2
        obtain ⟨o, ho⟩ : ∃ o, quotedL v = o := ⟨_, rfl⟩
        rw [ho] at h3
        have h3' := Lib.hid h3
        cases o with
        | none =>
          have hno := Lib.hid (show paramP true n v = none by unfold paramP; rw [ht, hv, ho]; rfl)
          clear h2 h3 ht hv ho
          unfold quoteV at h3'
          go_enter Tryz.func225, Tryz.ntmps225
          go_wp2_with (first
            | (go_at_call 231; (with_reducible refine Calls.mono hc'.out ?_); rintro e w1 ⟨rfl, hb1⟩; have hb1' := Lib.hid hb1; clear hb1)
            | (go_at_call 202; (with_reducible refine Calls.mono (mustA_yes _) ?_); rintro e w3 ⟨rfl, hw3⟩; obtain rfl := hw3.symm)
            | (go_at_call 202; (with_reducible refine Calls.mono (mustA_no _) ?_); rintro e w3 ⟨rfl, hw3⟩; obtain rfl := hw3.symm)
            | (go_at_call 232; (with_reducible refine Calls.mono (h3'.out _) ?_); rintro e w4 ⟨rfl, hb4⟩; have hb4' := Lib.hid (below_on hb5'.out hb4); clear hb4)
            | (have := hb2'.out; go_at_call 111; (with_reducible refine Calls.mono (h2'.out _) ?_); rintro e w5 ⟨rfl, hb5⟩; have hb5' := Lib.hid (below_on hb2'.out hb5); clear hb5 this)
            | (go_at_call 111; (with_reducible refine Calls.mono (h1'.out _) ?_); rintro e w2 ⟨rfl, hb2⟩; have hb2' := Lib.hid (below_on hb1'.out hb2); clear hb2))
          exact ⟨rfl, pairA_no hno.out hb4'.out⟩
        | some t =>
          have hyes := Lib.hid (show paramP true n v = some (lowerL n, t) by unfold paramP; rw [ht, hv, ho]; rfl)
          clear h2 h3 ht hv ho
          unfold quoteV at h3'
          generalize lowerL n = ln at *
          go_enter Tryz.func225, Tryz.ntmps225
          go_wp2_with (first
            | (go_at_call 231; (with_reducible refine Calls.mono hc'.out ?_); rintro e w1 ⟨rfl, hb1⟩; have hb1' := Lib.hid hb1; clear hb1)
            | (go_at_call 202; (with_reducible refine Calls.mono (mustA_yes _) ?_); rintro e w3 ⟨rfl, hw3⟩; obtain rfl := hw3.symm)
            | (go_at_call 232; (with_reducible refine Calls.mono (h3'.out _) ?_); rintro e w4 ⟨rfl, hb4⟩; have hb4' := Lib.hid (below_on hb5'.out hb4); clear hb4)
            | (go_at_call 112; (with_reducible refine Calls.mono (h4'.out _) ?_); rintro e w6 ⟨rfl, hb6⟩; have hb6' := Lib.hid (below_on hb4'.out hb6); clear hb6)
            | (have := hb2'.out; go_at_call 111; (with_reducible refine Calls.mono (h2'.out _) ?_); rintro e w5 ⟨rfl, hb5⟩; have hb5' := Lib.hid (below_on hb2'.out hb5); clear hb5 this)
            | (go_at_call 111; (with_reducible refine Calls.mono (h1'.out _) ?_); rintro e w2 ⟨rfl, hb2⟩; have hb2' := Lib.hid (below_on hb1'.out hb2); clear hb2))
          go_ret2
          exact pairA_yes hyes.out hb6'.out
end Go.Proofs.YtbmemkbfignlaaaGreatDoor

namespace Go.Proofs.YtbmemkbfignlaaaGreatDoor
open Go.RowKit Go.Shelf
attribute [local go_sem] Oper.semAt_some

/-! ## Parameters are taken in -/
theorem RdR.facts {W : World} {k : Nat} {ty sub : List UInt8} {pa q : Nat} {wd : Bool} (h : RdR W k ty sub pa q wd) : W.cell? ⟨k, 2, none⟩ = some (.int .i64 (pa : Int)) ∧ W.cell? ⟨k, 3, none⟩ = some (.int .i64 (q : Int)) ∧ W.cell? ⟨k, 4, none⟩ = some (.bool wd) ∧ W.frozen? ⟨k, 2, none⟩ = false ∧ W.frozen? ⟨k, 3, none⟩ = false ∧ W.frozen? ⟨k, 4, none⟩ = false :=
  ⟨Has.cell h 2, Has.cell h 3, Has.cell h 4, Has.free h 2, Has.free h 3, Has.free h 4⟩
theorem param_more (k : Nat) (ty sub n v : List UInt8) (pa q : Nat) (w : World) (hk : RdR w k ty sub pa q true) : Calls Tryz.prog 224 #[.pointer (some ⟨k, 0, none⟩), .string ⟨n.toArray⟩, .string ⟨v.toArray⟩] w fun e w' => e = .returned (.tuple #[]) ∧ w' = w := by
  obtain ⟨-, -, c4, -, -, -⟩ := hk.facts
  clear hk
  go_enter Tryz.func224, Tryz.ntmps224
  go_wp2
  go_end0
  exact ⟨rfl, rfl⟩
theorem param_other (k : Nat) (ty sub n v : List UInt8) (pa q : Nat) (w : World) (hpa : pa ≤ 1000000) (hn : n ≠ [113]) (hk : RdR w k ty sub pa q false) : Calls Tryz.prog 224 #[.pointer (some ⟨k, 0, none⟩), .string ⟨n.toArray⟩, .string ⟨v.toArray⟩] w fun e w' => e = .returned (.tuple #[]) ∧ RdR w' k ty sub (pa + 1) q false ∧ Below k w w' := by
  obtain ⟨c2, -, c4, f2, -, -⟩ := hk.facts
  have hne : (n == [113]) = false := by simpa using hn
  have hp := Lib.hid (Has.put hk 2 (.int .i64 ((pa : Int) + 1)))
  clear hk hn
  go_enter Tryz.func224, Tryz.ntmps224
  go_wp2
  go_end0
  refine ⟨rfl, ?_, (Below.refl k w).setCell (p := ⟨k, 2, none⟩) (Nat.le_refl _) _⟩
  have := hp.out
  simpa [RdR] using this
theorem param_bad (k : Nat) (ty sub v : List UInt8) (pa q : Nat) (w : World) (hT : TabA w) (hv : v.length ≤ 1000000) (ht : Ac.thou v = none) (hk : RdR w k ty sub pa q false) : Calls Tryz.prog 224 #[.pointer (some ⟨k, 0, none⟩), .string ⟨#[113]⟩, .string ⟨v.toArray⟩] w fun e w' => e = gaveEA ∧ Below w.heap.size w w' := by
  obtain ⟨-, -, c4, -, -, -⟩ := hk.facts
  have h1 := thouT_any v w hT hv
  rw [ht] at h1
  unfold ThouR at h1
  simp only at h1
  have h1' := Lib.hid h1
  clear hk h1 hT
  go_enter Tryz.func224, Tryz.ntmps224
  go_wp2_with (go_at_call 230; (with_reducible refine Calls.mono h1'.out ?_); rintro e w1 ⟨rfl, hb1⟩; have hb1' := Lib.hid hb1; clear hb1)
  exact ⟨rfl, rfl, hb1'.out⟩
theorem param_q (k : Nat) (ty sub v : List UInt8) (pa q q' : Nat) (w : World) (hT : TabA w) (hv : v.length ≤ 1000000) (ht : Ac.thou v = some q') (hk : RdR w k ty sub pa q false) : Calls Tryz.prog 224 #[.pointer (some ⟨k, 0, none⟩), .string ⟨#[113]⟩, .string ⟨v.toArray⟩] w fun e w' => e = .returned (.tuple #[]) ∧ RdR w' k ty sub pa q' true ∧ Below k w w' := by
  obtain ⟨-, -, c4, -, -, -⟩ := hk.facts
  have h1 := thouT_any v w hT hv
  rw [ht] at h1
  unfold ThouR at h1
  simp only at h1
  have h1' := Lib.hid h1
  have hk' := Lib.hid hk
  have hkl := Lib.hid (show k ≤ w.heap.size from Nat.le_of_lt (Has.lt hk))
  clear hk h1 hT
  go_enter Tryz.func224, Tryz.ntmps224
  go_wp2_with (go_at_call 230; (with_reducible refine Calls.mono h1'.out ?_); rintro e w1 ⟨rfl, hb1⟩; have hb1' := Lib.hid hb1; have k1 := hk'.out.on hb1; have d3 := k1.facts.2.1; have f3 := k1.facts.2.2.2.2.1; have p1 := Has.put k1 3 (.int .i64 (q' : Int)); have d4 := p1.cell 4; have f4 := p1.free 4; have p2 := Lib.hid (p1.put 4 (.bool true)); clear hb1 k1 p1)
  go_end0
  refine ⟨rfl, ?_, ((hb1'.out.mono hkl.out).setCell (p := ⟨k, 3, none⟩) (Nat.le_refl _) _).setCell (p := ⟨k, 4, none⟩) (Nat.le_refl _) _⟩
  have := p2.out
  simpa [RdR] using this
/-- Texts in memory below a block. -/
def TxB (W : World) (B : Nat) (A : Option Addr) (l : List (List UInt8)) : Prop := 0 < l.length → ∃ b o, A = some ⟨b, o, none⟩ ∧ b < B ∧ b < W.heap.size ∧ ∀ (i : Nat) (x : List UInt8), l[i]? = some x → W.cell? ⟨b, o + i, none⟩ = some (.string ⟨x.toArray⟩)
theorem TxB.below {W W' : World} {B : Nat} {A : Option Addr} {l : List (List UInt8)} (h : TxB W B A l) (hb : Below B W W') : TxB W' B A l := fun h0 => by
  obtain ⟨b, o, hA, h1, h2, h3⟩ := h h0
  exact ⟨b, o, hA, h1, Nat.lt_of_lt_of_le h2 hb.size, fun i x hx => (World.cell?_of_block (hb.block b h1)).trans (h3 i x hx)⟩
def ParsR (o : Option (Nat × Nat)) (k : Nat) (ty sub : List UInt8) (w : World) (e : Ending) (w' : World) : Prop := (match o with
  | some x => e = .returned (.tuple #[]) ∧ ∃ wd, RdR w' k ty sub x.1 x.2 wd
  | none => e = gaveEA) ∧ Below k w w'
theorem parsR_no {o : Option (Nat × Nat)} {k : Nat} {ty sub : List UInt8} {w w' : World} (h : o = none) (hb : Below k w w') : ParsR o k ty sub w gaveEA w' := by subst h; exact ⟨rfl, hb⟩
theorem parsR_yes {o : Option (Nat × Nat)} {k pa q : Nat} {wd : Bool} {ty sub : List UInt8} {w w' : World} (h : o = some (pa, q)) (hr : RdR w' k ty sub pa q wd) (hb : Below k w w') : ParsR o k ty sub w (.returned (.tuple #[])) w' := by subst h; exact ⟨⟨rfl, _, hr⟩, hb⟩
theorem quoteT_len : ∀ {s t : List UInt8}, quoteL s = some t → t.length ≤ s.length
  | [], t, h => by simp [quoteL] at h
  | b :: r, t, h => by
    by_cases h34 : b = 34
    · subst h34
      rw [quoteL_end] at h
      split at h
      · injection h with h; subst h; simp
      · cases h
    · by_cases h92 : b = 92
      · subst h92
        cases r with
        | nil => rw [quoteL_esc1] at h; cases h
        | cons d v =>
          rw [quoteL_esc2] at h
          split at h
          · cases hv : quoteL v with
            | none => rw [hv] at h; cases h
            | some u =>
              rw [hv] at h
              injection h with h
              subst h
              have := quoteT_len hv
              simp; omega
          · cases h
      · have e : quoteL (b :: r) = if valB b then (quoteL r).map (b :: ·) else none := by
          conv => lhs; unfold quoteL
          split
          · rename_i e; cases e
          · rename_i e; injection e with e _; exact absurd e h34
          · rename_i e; injection e with e _; exact absurd e h92
          · rename_i e; injection e with e1 e2; subst e1; subst e2; rfl
        rw [e] at h
        split at h
        · cases hv : quoteL r with
          | none => rw [hv] at h; cases h
          | some u =>
            rw [hv] at h
            injection h with h
            subst h
            have := quoteT_len hv
            simp; omega
        · cases h
theorem quoted_len {s t : List UInt8} (h : quotedL s = some t) : t.length ≤ s.length := by
  unfold quotedL at h
  split at h
  · have := quoteT_len h; simp; omega
  · cases h
theorem param_small {s n v : List UInt8} (h : Ac.param s = some (n, v)) : v.length ≤ s.length := by
  rw [Ac.param_eq] at h
  have l3 := trimL_len (s.drop ((aheadL 61 s false).length + 1))
  have l4 : (s.drop ((aheadL 61 s false).length + 1)).length ≤ s.length := by simp
  generalize trimL (s.drop ((aheadL 61 s false).length + 1)) = x at *
  split at h
  · split at h
    · split at h
      · have := Option.some.inj h; injection this with _ e; subst e; omega
      · cases hq : quotedL x with
        | none => rw [hq] at h; cases h
        | some t =>
          rw [hq] at h
          have := Option.some.inj h
          injection this with _ e
          subst e
          have := quoted_len hq
          omega
    · have := Option.some.inj h; injection this with _ e; subst e; simp
  · cases h
set_option maxRecDepth 100000 in
set_option maxHeartbeats 4000000 in
theorem params_any (k : Nat) (ty sub : List UInt8) (A : Option Addr) (c : Nat) (ps : List (List UInt8)) (w : World) (hT : TabA w) (hTk : 0 < k) (hk : RdR w k ty sub 0 1000 false) (hx : TxB w k A ps) (hl : ps.length ≤ 1000000) (hps : ∀ p ∈ ps, p.length ≤ 1000000) :
    Calls Tryz.prog 216 #[.pointer (some ⟨k, 0, none⟩), .slice A ps.length c] w (ParsR (Ac.parsS 0 1000 false ps) k ty sub w) := by
  have hT' := Lib.hid (fun W (hb : Below k w W) => show TabA W from by
    obtain ⟨m, hm⟩ := hT
    exact ⟨m, (hb.block _ hTk).trans hm⟩)
  have hx' := Lib.hid hx
  have hps' := Lib.hid hps
  have hli : (ps.length : Int) ≤ 1000000 := by omega
  clear hT hx hps
  go_enter Tryz.func216, Tryz.ntmps216
  go_wp2
  go_loopw [5, 8] (fun _ x W => ∃ (j pa q : Nat) (wd : Bool), j ≤ ps.length ∧ x = .int .i64 (j : Int) ∧ RdR W k ty sub pa q wd ∧ (wd = false → q = 1000) ∧ Hid (Ac.parsS 0 1000 false ps = Ac.parsS pa q wd (ps.drop j)) ∧ pa ≤ j ∧ Below k w W) (fun _ x _ => ps.length - (intOf x).toNat)
  case atStart => exact ⟨0, 0, 1000, false, Nat.zero_le _, rfl, hk, fun _ => rfl, Lib.hid (by rw [List.drop_zero]), Nat.le_refl _, Below.refl _ _⟩
  case round =>
    obtain ⟨j, pa, q, wd, hj, rfl, hrd, hq0, hgo, hpa, hb⟩ := hrel
    have hb' := Lib.hid hb
    have hrd' := Lib.hid hrd
    have hkr := Lib.hid (show k < wr.heap.size from Has.lt hrd)
    clear hk hrd
    by_cases hlt : j < ps.length
    · have hltI : (j : Int) < (ps.length : Int) := by omega
      obtain ⟨b, o, rfl, hbk, hbl, hcs⟩ := (hx'.out.below hb) (by omega)
      obtain ⟨p, hp⟩ : ∃ p, ps[j] = p := ⟨_, rfl⟩
      have c0 := hcs j p (by rw [List.getElem?_eq_getElem hlt, hp])
      have hpl := hps'.out p (by rw [← hp]; exact List.getElem_mem hlt)
      have hd : ps.drop j = p :: ps.drop (j + 1) := by rw [List.drop_eq_getElem_cons hlt, hp]
      have hgo1 := hgo.out
      rw [hd] at hgo1
      clear hcs hb hgo hd hp
      by_cases hp0 : p = []
      · subst hp0
        rw [Ac.parsS_empty] at hgo1
        have hgo' := Lib.hid hgo1
        clear hgo1
        go_wp2
        exact ⟨⟨j + 1, pa, q, wd, by omega, by go_num, hrd'.out, hq0, hgo', by omega, hb'.out⟩, by simp [intOf]; omega⟩
      · have hne : (p == []) = false := by simpa using hp0
        have hne2 : p.isEmpty = false := by cases p with
          | nil => exact absurd rfl hp0
          | cons a b => rfl
        have hpr := pair_anyA p wr hpl
        obtain ⟨ox, hox⟩ : ∃ ox, Ac.param p = ox := ⟨_, rfl⟩
        rw [hox] at hpr
        unfold PairA at hpr
        cases ox with
        | none =>
          simp only at hpr
          have hpr' := Lib.hid hpr
          have hno := Lib.hid (hgo1.trans (Ac.parsS_none hp0 hox))
          clear hpr hgo1 hox hp0
          go_wp2_with (go_at_call 225; (with_reducible refine Calls.mono hpr'.out ?_); rintro e w2 ⟨rfl, hb2⟩; have hb2' := Lib.hid hb2; clear hb2)
          exact ⟨rfl, parsR_no hno.out (hb'.out.trans (hb2'.out.mono (Nat.le_of_lt hkr.out)))⟩
        | some nv =>
          obtain ⟨n, v⟩ := nv
          simp only at hpr
          have hpr' := Lib.hid hpr
          have hvl := param_small hox
          have hvl2 : v.length ≤ 1000000 := by omega
          clear hpr hvl
          cases wd with
          | true =>
            have hgo' := Lib.hid (hgo1.trans (Ac.parsS_more hp0 hox))
            have h5 := Lib.hid (fun W hW => param_more k ty sub n v pa q W hW)
            clear hgo1 hox hp0
            go_wp2_with (first
              | (go_at_call 225; (with_reducible refine Calls.mono hpr'.out ?_); rintro e w2 ⟨rfl, hb2⟩; have hb2' := Lib.hid hb2; have hk2 := Lib.hid (hrd'.out.on hb2); clear hb2)
              | (go_at_call 224; (with_reducible refine Calls.mono (h5.out _ hk2.out) ?_); rintro e w3 ⟨rfl, hw3⟩; obtain rfl := hw3.symm))
            exact ⟨⟨j + 1, pa, q, true, by omega, by go_num, hk2.out, hq0, hgo', by omega, hb'.out.trans (hb2'.out.mono (Nat.le_of_lt hkr.out))⟩, by simp [intOf]; omega⟩
          | false =>
            by_cases hn : n = [113]
            · subst hn
              obtain ⟨ot, hot⟩ : ∃ ot, Ac.thou v = ot := ⟨_, rfl⟩
              cases ot with
              | none =>
                have hno := Lib.hid (hgo1.trans (Ac.parsS_bad hp0 hox hot))
                have h5 := Lib.hid (fun W hT hW => param_bad k ty sub v pa q W hT hvl2 hot hW)
                clear hgo1 hox hp0 hot
                go_wp2_with (first
                  | (go_at_call 225; (with_reducible refine Calls.mono hpr'.out ?_); rintro e w2 ⟨rfl, hb2⟩; have hb2' := Lib.hid (hb'.out.trans (hb2.mono (Nat.le_of_lt hkr.out))); have hk2 := Lib.hid (hrd'.out.on hb2); clear hb2)
                  | (go_at_call 224; (with_reducible refine Calls.mono (h5.out _ (hT'.out _ hb2'.out) hk2.out) ?_); rintro e w3 ⟨rfl, hb3⟩; have hb3' := Lib.hid hb3; clear hb3))
                exact ⟨rfl, parsR_no hno.out (hb2'.out.trans (hb3'.out.mono (Nat.le_of_lt (Has.lt hk2.out))))⟩
              | some q' =>
                have hgo' := Lib.hid (hgo1.trans (Ac.parsS_q hp0 hox hot))
                have h5 := Lib.hid (fun W hT hW => param_q k ty sub v pa q q' W hT hvl2 hot hW)
                clear hgo1 hox hp0 hot
                go_wp2_with (first
                  | (go_at_call 225; (with_reducible refine Calls.mono hpr'.out ?_); rintro e w2 ⟨rfl, hb2⟩; have hb2' := Lib.hid (hb'.out.trans (hb2.mono (Nat.le_of_lt hkr.out))); have hk2 := Lib.hid (hrd'.out.on hb2); clear hb2)
                  | (go_at_call 224; (with_reducible refine Calls.mono (h5.out _ (hT'.out _ hb2'.out) hk2.out) ?_); rintro e w3 ⟨rfl, hk3, hb3⟩; have hb3' := Lib.hid hb3; have hk3' := Lib.hid hk3; clear hb3 hk3))
                exact ⟨⟨j + 1, pa, q', true, by omega, by go_num, hk3'.out, (fun h => by cases h), hgo', by omega, hb2'.out.trans hb3'.out⟩, by simp [intOf]; omega⟩
            · have hgo' := Lib.hid (hgo1.trans (Ac.parsS_other hp0 hox hn))
              have h5 := Lib.hid (fun W hW => param_other k ty sub n v pa q W (by omega) hn hW)
              have hq1 := hq0 rfl
              clear hgo1 hox hp0 hn
              go_wp2_with (first
                | (go_at_call 225; (with_reducible refine Calls.mono hpr'.out ?_); rintro e w2 ⟨rfl, hb2⟩; have hb2' := Lib.hid (hb'.out.trans (hb2.mono (Nat.le_of_lt hkr.out))); have hk2 := Lib.hid (hrd'.out.on hb2); clear hb2)
                | (go_at_call 224; (with_reducible refine Calls.mono (h5.out _ hk2.out) ?_); rintro e w3 ⟨rfl, hk3, hb3⟩; have hb3' := Lib.hid hb3; have hk3' := Lib.hid hk3; clear hb3 hk3))
              exact ⟨⟨j + 1, pa + 1, q, false, by omega, by go_num, hk3'.out, fun _ => hq1, hgo', by omega, hb2'.out.trans hb3'.out⟩, by simp [intOf]; omega⟩
    · obtain rfl : j = ps.length := by omega
      have hgo1 := hgo.out
      rw [List.drop_length, Ac.parsS_end _ _ _ hq0] at hgo1
      have hgo' := Lib.hid hgo1
      clear hb hgo hgo1
      go_wp2
      go_end0
      exact parsR_yes hgo'.out hrd'.out hb'.out
end Go.Proofs.YtbmemkbfignlaaaGreatDoor

namespace Go.Proofs.YtbmemkbfignlaaaGreatDoor
open Go.RowKit Go.Shelf
attribute [local go_sem] Oper.semAt_some
theorem wideF_fn (f : FuncId) : Fence.wide.fn f = True := rfl
theorem wideF_depth : Fence.wide.depth.isSome = false := rfl
theorem wideF_round (l : Nat) (f : FuncId) : (Fence.wide.inRound l).fn f = True := rfl
attribute [local go_sem] wideF_fn wideF_depth wideF_round

/-! ## Ranges over functions: what serves them (of no layer) -/
theorem grown_below {A B : World} (h : Below A.heap.size A B) : A.grownBy B none := ⟨h.os, h.tape, h.output, h.size, fun k hk _ => h.block k hk⟩
/-- A round's answer, by a Bool. -/
def YPost {α : Type} (J Jx : List α → World → Prop) (K : World → World → Prop) (ys : List α) (W : World) (b : Bool) (W' : World) : Prop := if b = true then J ys W' ∧ K W W' else Jx ys W'
/-- A block of cells abides the turn of what is no cells. -/
theorem Has.row {X Y : World} {row : Option Nat} {k : Nat} {t : TypeId} {cs : Array Value} {B : Nat} (hs : Has X k t cs) (hg : X.grownBy Y row) (hr : ∀ r, row = some r → B ≤ r ∧ ∃ o : Obj, X.heap[r]? = some o ∧ o.isCells = false) : Has Y k t cs :=
  (hg.block k hs.lt (fun e => by
    obtain ⟨_, o, ho, hc⟩ := hr k e.symm
    have hs' : X.heap[k]? = some (.cells cs t (0, 0)) := hs
    rw [hs'] at ho
    rw [← Option.some.inj ho] at hc
    cases hc)).trans hs
/-- The frame of a round whose variable lies in a box. -/
def AxB {α : Type} (F : α → Nat → Act) (t : TypeId) (V : α → Array Value) (x : α) (a' : Act) (W : World) : Prop := ∃ k, a' = F x k ∧ Has W k t (V x)
theorem axB_from {α : Type} {B : Nat} {F : α → Nat → Act} {t : TypeId} {V : α → Array Value} (x : α) (a' : Act) : OwnFrom B (fun (_ : Unit) W => AxB F t V x a' W) := fun _ X Y row hs hg hr => by
  obtain ⟨k, e, h⟩ := hs
  exact ⟨k, e, h.row hg hr⟩
/-- The contract: as SeqStopsK, but that the caller's two words abide more, and that each round says what of the iterator's own it left alone. -/
def SeqOwn {α : Type} (n : Nat) (P : Program) (gf : Nat) (lb : Array Value) (encs : α → Array Value) (Kp : World → World → Prop) (S Sp : List α → Prop) (N : Nat) (w : World) : Prop :=
  ∀ (l : Nat) (J Jx : List α → World → Prop) (W : World), Below w.heap.size w W → OwnFrom W.heap.size J → OwnFrom W.heap.size Jx →
    (∀ pre x V, J pre V → pre.length < N → YieldAt Fence.wide (n - 1) P l (encs x) V fun e V' => KeepsFrom W.heap.size V V' ∧
      ((e = .returned (.bool true) ∧ J (pre ++ [x]) V' ∧ Kp V V') ∨ (e = .returned (.bool false) ∧ Jx (pre ++ [x]) V'))) → J [] W →
    CallsIn Fence.wide n P gf (#[.func (.yield l) #[] #[]] ++ lb) W fun e V => (∃ v, e = .returned v) ∧ ((∃ xs, S xs ∧ J xs V) ∨ (∃ pre, Sp pre ∧ Jx pre V))
theorem round_any {m m' l l' : Nat} {P : Program} {f : FuncId} {tmps : Array Value} {assign body : Code} {w : World} {R : Ending → World → Prop}
    (h : RoundIn Fence.wide m P l f tmps assign body w R) : RoundIn (Fence.wide.inRound l') m' P l f tmps assign body w R :=
  ⟨h.1, fun c cs _ => h.2 c cs (room_wide _)⟩
/-- Non-cells of an index lie as they lay behind the turn of another block. -/
theorem grown_obj {X Y : World} {row : Option Nat} {k B : Nat} {o : Obj} (h : X.heap[k]? = some o) (hg : X.grownBy Y row) (hr : ∀ r, row = some r → B ≤ r ∧ ∃ o : Obj, X.heap[r]? = some o ∧ o.isCells = false) (hk : k < B) : Y.heap[k]? = some o :=
  (hg.block k (Array.getElem?_eq_some_iff.1 h).1 (fun e => by have := (hr k e.symm).1; omega)).trans h
set_option maxHeartbeats 1000000 in
theorem wpIn_range_own {α : Type} {n : Nat} {P : Program} {g : Operand} {ps : Array Tmp} {assign body : Code} {Q : Exit → Act → World → Prop} {a : Act} {w : World} (id : Nat)
    {gf : Nat} {lb : Array Value} (hg : a.eval g = .func (.func gf) #[] lb) (eg : ∀ args w, (callFunc gf args).run P w = .ok (.enter gf args) w)
    {encs : α → Array Value} {Kp : World → World → Prop} {S Sp : List α → Prop} {N : Nat} {w0 : World} (hseq : SeqOwn (n - 1) P gf lb encs Kp S Sp N w0)
    (hKt : ∀ {A B C : World}, Kp A B → Kp B C → Kp A C) (hKb : ∀ (W : World) (l : Nat) (o o' : Obj), w.heap.size ≤ l → W.heap[l]? = some o → o.isCells = false → o.isWalk = false → Kp W (W.putObj l o'))
    (hb0 : Below w0.heap.size w0 w) (hps : ∀ x, (encs x).size = ps.size)
    (I : List α → World → Prop) (Ix : Code → List α → World → Prop) (M : World → Prop) (hI : OwnFrom w.heap.size I) (hIx : ∀ c, OwnFrom w.heap.size (Ix c)) (h0 : I [] w)
    (hall : ∀ xs W, S xs → I xs W → M W) (hleft : ∀ c pre W, Sp pre → Ix c pre W → c = .exit id ∧ M W) (a₁ : α → Act)
    (hassign : ∀ (l : Nat) (x : α) (W : World) (K : Act → World → Prop), K (a₁ x) W →
      assign.wpIn (Fence.wide.inRound l) (n - 1 - 1) P (Exit.then K (fun _ _ _ => False)) { tmps := (ps.zip (encs x)).foldl (fun t (p, v) => t.setIfInBounds p v) a.tmps, defers := [] } W)
    (hbody : ∀ (l : Nat) (pre : List α) (x : α) (W : World), I pre W → pre.length < N → body.wpIn (Fence.wide.inRound l) (n - 1 - 1) P (ownPostG w.heap.size Kp I Ix (pre ++ [x]) W) (a₁ x) W)
    (hq : ∀ a W, Q .normal a W → Q (.exit id) a W)
    (hrest : ∀ (D : Nat) (W : World), w.heap.size ≤ D → M W → NoCalls W D → Q .normal { a with defers := { target := .collected D, args := #[] } :: a.defers } W) :
    (Code.rangeFunc g ps assign body).wpIn Fence.wide n P Q a w := by
  refine wpIn_rangeFunc fun fn hfn => ?_
  obtain ⟨rc, hrc⟩ : ∃ rc : LoopState → Option Code → Loop, rc = fun st pe => { state := st, pending := pe, fn, tmps := a.tmps, params := ps, assign, body, defers := w.heap.size } := ⟨_, rfl⟩
  obtain ⟨V, hV⟩ : ∃ V, (w.alloc (.deferred (some []))).alloc (.loop (rc .ready none)) = V := ⟨_, rfl⟩
  have zV : V.heap.size = w.heap.size + 1 + 1 := by rw [← hV]; simp
  have lr : V.heap[w.heap.size + 1]? = some (.loop (rc .ready none)) := by rw [← hV]; have := World.alloc_heap_new (w.alloc (.deferred (some []))) (.loop (rc .ready none)); rwa [World.size_alloc] at this
  have ld : V.heap[w.heap.size]? = some (.deferred (some [])) := by rw [← hV]; exact (Below.heap_alloc _ _ _ (by simp)).trans (World.alloc_heap_new w _)
  have hIV : I [] V := by rw [← hV]; exact hI.alloc _ (hI.alloc _ h0)
  have hbV : Below w0.heap.size w0 V := by rw [← hV]; exact hb0.trans ((((Below.refl _ w).alloc (Nat.le_refl _) _).alloc (by simp) _).mono hb0.size)
  refine ⟨w.heap.size + 1, [{ target := .collected w.heap.size, args := #[] }], V, { target := .fn (.func gf) lb, args := #[.func (.yield (w.heap.size + 1)) #[] #[]] }, V, gf, #[.func (.yield (w.heap.size + 1)) #[] #[]] ++ lb, V, ?_, ?_, fun _ _ => trivial, ?_, fun h => (by cases h), ?_⟩
  · rw [← hV, hrc]; exact run_enterLoop_outer _ _ _ _ _
  · simp only [resolve, hg]; simp [go_sem]
  · simp [invoke, go_sem, eg]
  · have up : ∀ {X : World} {row : Option Nat}, (∀ r, row = some r → V.heap.size ≤ r ∧ ∃ o : Obj, X.heap[r]? = some o ∧ o.isCells = false) → ∀ r, row = some r → w.heap.size ≤ r ∧ ∃ o : Obj, X.heap[r]? = some o ∧ o.isCells = false :=
      fun hr r e => ⟨by have := (hr r e).1; omega, (hr r e).2⟩
    refine (hseq (w.heap.size + 1) (fun pre W => I pre W ∧ W.heap[w.heap.size + 1]? = some (.loop (rc .ready none)) ∧ W.heap[w.heap.size]? = some (.deferred (some [])))
      (fun pre W => ∃ c, Ix c pre W ∧ W.heap[w.heap.size + 1]? = some (.loop (rc .done (some c))) ∧ W.heap[w.heap.size]? = some (.deferred (some []))) V hbV
      (fun s X Y row hs hg' hr => ⟨hI s X Y row hs.1 hg' (up hr), grown_obj hs.2.1 hg' hr (by omega), grown_obj hs.2.2 hg' hr (by omega)⟩)
      (fun s X Y row hs hg' hr => by
        obtain ⟨c, h1, h2, h3⟩ := hs
        exact ⟨c, hIx c s X Y row h1 hg' (up hr), grown_obj h2 hg' hr (by omega), grown_obj h3 hg' hr (by omega)⟩) ?_ ⟨hIV, lr, ld⟩).mono ?_
    · rintro pre x X ⟨hi, hl, hd⟩ hlen
      have hy := run_yield (P := P) (args := encs x) hl (by rw [hrc]; exact hps x)
      rw [hrc] at hy
      refine ⟨fn, _, assign, body, hy, roundIn_of_wpIn hfn (hassign _ x X _ ⟨_, run_beginRound hl (by rw [hrc]), ?_⟩)⟩
      have hlt : w.heap.size + 1 < X.heap.size := (Array.getElem?_eq_some_iff.1 hl).1
      obtain ⟨Y, hY⟩ : ∃ Y, X.putObj (w.heap.size + 1) (.loop { rc .ready none with state := .busy }) = Y := ⟨_, rfl⟩
      rw [hY]
      have yl : Y.heap[w.heap.size + 1]? = some (.loop { rc .ready none with state := .busy }) := by rw [← hY]; exact World.putObj_heap_same hlt
      have yd : Y.heap[w.heap.size]? = some (.deferred (some [])) := by rw [← hY]; exact (World.putObj_heap_other (by omega)).trans hd
      have yi : I pre Y := by rw [← hY]; exact hI.putObj _ hi (by omega) hl rfl
      have yk : Kp X Y := by rw [← hY]; exact hKb _ _ _ _ (by omega) hl rfl rfl
      have ys : Y.heap.size = X.heap.size := by rw [← hY]; simp [World.putObj]
      refine wpIn_mono (hbody _ pre x Y yi hlen) ?_
      have fin : ∀ (jump : Option Code) (Z : World), KeepsFrom w.heap.size Y Z →
          (Instr.endRound (w.heap.size + 1) jump).run P Z = .ok (.bool jump.isNone) (Z.putObj (w.heap.size + 1) (.loop (rc (if jump.isNone then .ready else .done) jump))) ∧
          Z.heap[w.heap.size + 1]? = some (.loop { rc .ready none with state := .busy }) ∧
          (Z.putObj (w.heap.size + 1) (.loop (rc (if jump.isNone then .ready else .done) jump))).heap[w.heap.size + 1]? = some (.loop (rc (if jump.isNone then .ready else .done) jump)) ∧
          (Z.putObj (w.heap.size + 1) (.loop (rc (if jump.isNone then .ready else .done) jump))).heap[w.heap.size]? = some (.deferred (some [])) ∧
          KeepsFrom V.heap.size X (Z.putObj (w.heap.size + 1) (.loop (rc (if jump.isNone then .ready else .done) jump))) := fun jump Z hk => by
        have zl := hk.same _ _ (by omega) yl rfl
        have := run_endRound (P := P) jump zl
        rw [hrc] at this ⊢
        refine ⟨this, by rw [hrc] at zl; exact zl, World.putObj_heap_same (Array.getElem?_eq_some_iff.1 zl).1, (World.putObj_heap_other (by omega)).trans (hk.same _ _ (Nat.le_refl _) yd rfl), ?_, fun k o hk1 hk2 hk3 => ?_⟩
        · have := hk.size; simp [World.putObj]; omega
        · refine (World.putObj_heap_other (by omega)).trans (hk.same k o (by omega) ?_ hk3)
          rw [← hY]
          exact (World.putObj_heap_other (by omega)).trans hk2
      rintro e a3 Z hp
      cases e with
      | normal =>
        obtain ⟨hk3, hkp3, hi3⟩ := hp
        obtain ⟨hr, hl3, hl4, hk4, hkf⟩ := fin none Z hk3
        exact ⟨_, _, hr, hkf, .inl ⟨rfl, ⟨hI.putObj _ hi3 (by omega) hl3 rfl, hl4, hk4⟩, hKt (hKt yk hkp3) (hKb _ _ _ _ (by omega) hl3 rfl rfl)⟩⟩
      | ret =>
        obtain ⟨hk3, hi3⟩ := hp
        obtain ⟨hr, hl3, hl4, hk4, hkf⟩ := fin (some .ret) Z hk3
        exact ⟨_, _, hr, hkf, .inr ⟨rfl, .ret, (hIx _).putObj _ hi3 (by omega) hl3 rfl, hl4, hk4⟩⟩
      | exit id' =>
        obtain ⟨hk3, hi3⟩ := hp
        obtain ⟨hr, hl3, hl4, hk4, hkf⟩ := fin (some (.exit id')) Z hk3
        exact ⟨_, _, hr, hkf, .inr ⟨rfl, .exit id', (hIx _).putObj _ hi3 (by omega) hl3 rfl, hl4, hk4⟩⟩
      | goto t =>
        obtain ⟨hk3, hi3⟩ := hp
        obtain ⟨hr, hl3, hl4, hk4, hkf⟩ := fin (some (.goto t)) Z hk3
        exact ⟨_, _, hr, hkf, .inr ⟨rfl, .goto t, (hIx _).putObj _ hi3 (by omega) hl3 rfl, hl4, hk4⟩⟩
      | panic ch => exact hp.elim
      | outgrown => exact hp.elim
    · rintro e Z ⟨⟨v, rfl⟩, (⟨xs, hS, hi, hl, hk⟩ | ⟨pre, hSp, c, hi, hl, hk⟩)⟩
      · exact ⟨none, _, by have := run_endLoop (P := P) hl (by rw [hrc]; simp); rw [hrc] at this; exact this, hrest _ _ (Nat.le_refl _) (hall xs _ hS (hI.putObj _ hi (by omega) hl rfl)) ((World.putObj_heap_other (by omega)).trans hk)⟩
      · have hix := (hIx c).putObj (.loop { rc .done (some c) with state := .exhausted }) hi (by omega) hl rfl
        obtain ⟨rfl, hM⟩ := hleft c pre _ hSp hix
        exact ⟨some (.exit id), _, by have := run_endLoop (P := P) hl (by rw [hrc]; simp); rw [hrc] at this ⊢; exact this, wpIn_exit (hq _ _ (hrest _ _ (Nat.le_refl _) hM ((World.putObj_heap_other (by omega)).trans hk)))⟩
set_option maxHeartbeats 1000000 in
theorem wpIn_range_ownB {α : Type} {n : Nat} {P : Program} {g : Operand} {ps : Array Tmp} {assign body : Code} {Q : Exit → Act → World → Prop} {a : Act} {w : World} (id : Nat)
    {gf : Nat} {lb : Array Value} (hg : a.eval g = .func (.func gf) #[] lb) (eg : ∀ args w, (callFunc gf args).run P w = .ok (.enter gf args) w)
    {encs : α → Array Value} {Kp : World → World → Prop} {S Sp : List α → Prop} {N : Nat} {w0 : World} (hseq : SeqOwn (n - 1) P gf lb encs Kp S Sp N w0)
    (hKt : ∀ {A B C : World}, Kp A B → Kp B C → Kp A C) (hKb : ∀ (W : World) (l : Nat) (o o' : Obj), w.heap.size ≤ l → W.heap[l]? = some o → o.isCells = false → o.isWalk = false → Kp W (W.putObj l o'))
    (hb0 : Below w0.heap.size w0 w) (hps : ∀ x, (encs x).size = ps.size)
    (I : List α → World → Prop) (Ix : Code → List α → World → Prop) (M : World → Prop) (hI : OwnFrom w.heap.size I) (hIx : ∀ c, OwnFrom w.heap.size (Ix c)) (h0 : I [] w)
    (hall : ∀ xs W, S xs → I xs W → M W) (hleft : ∀ c pre W, Sp pre → Ix c pre W → c = .exit id ∧ M W) (Ax : α → Act → World → Prop) (hAx : ∀ x a', OwnFrom w.heap.size (fun (_ : Unit) W => Ax x a' W))
    (hassign : ∀ (l : Nat) (pre : List α) (x : α) (W : World) (K : Act → World → Prop), I pre W → (∀ a' W', KeepsFrom w.heap.size W W' → Kp W W' → I pre W' → Ax x a' W' → K a' W') →
      assign.wpIn (Fence.wide.inRound l) (n - 1 - 1) P (Exit.then K (fun _ _ _ => False)) { tmps := (ps.zip (encs x)).foldl (fun t (p, v) => t.setIfInBounds p v) a.tmps, defers := [] } W)
    (hbody : ∀ (l : Nat) (pre : List α) (x : α) (a' : Act) (W : World), I pre W → Ax x a' W → pre.length < N → body.wpIn (Fence.wide.inRound l) (n - 1 - 1) P (ownPostG w.heap.size Kp I Ix (pre ++ [x]) W) a' W)
    (hq : ∀ a W, Q .normal a W → Q (.exit id) a W)
    (hrest : ∀ (D : Nat) (W : World), w.heap.size ≤ D → M W → NoCalls W D → Q .normal { a with defers := { target := .collected D, args := #[] } :: a.defers } W) :
    (Code.rangeFunc g ps assign body).wpIn Fence.wide n P Q a w := by
  refine wpIn_rangeFunc fun fn hfn => ?_
  obtain ⟨rc, hrc⟩ : ∃ rc : LoopState → Option Code → Loop, rc = fun st pe => { state := st, pending := pe, fn, tmps := a.tmps, params := ps, assign, body, defers := w.heap.size } := ⟨_, rfl⟩
  obtain ⟨V, hV⟩ : ∃ V, (w.alloc (.deferred (some []))).alloc (.loop (rc .ready none)) = V := ⟨_, rfl⟩
  have zV : V.heap.size = w.heap.size + 1 + 1 := by rw [← hV]; simp
  have lr : V.heap[w.heap.size + 1]? = some (.loop (rc .ready none)) := by rw [← hV]; have := World.alloc_heap_new (w.alloc (.deferred (some []))) (.loop (rc .ready none)); rwa [World.size_alloc] at this
  have ld : V.heap[w.heap.size]? = some (.deferred (some [])) := by rw [← hV]; exact (Below.heap_alloc _ _ _ (by simp)).trans (World.alloc_heap_new w _)
  have hIV : I [] V := by rw [← hV]; exact hI.alloc _ (hI.alloc _ h0)
  have hbV : Below w0.heap.size w0 V := by rw [← hV]; exact hb0.trans ((((Below.refl _ w).alloc (Nat.le_refl _) _).alloc (by simp) _).mono hb0.size)
  refine ⟨w.heap.size + 1, [{ target := .collected w.heap.size, args := #[] }], V, { target := .fn (.func gf) lb, args := #[.func (.yield (w.heap.size + 1)) #[] #[]] }, V, gf, #[.func (.yield (w.heap.size + 1)) #[] #[]] ++ lb, V, ?_, ?_, fun _ _ => trivial, ?_, fun h => (by cases h), ?_⟩
  · rw [← hV, hrc]; exact run_enterLoop_outer _ _ _ _ _
  · simp only [resolve, hg]; simp [go_sem]
  · simp [invoke, go_sem, eg]
  · have up : ∀ {X : World} {row : Option Nat}, (∀ r, row = some r → V.heap.size ≤ r ∧ ∃ o : Obj, X.heap[r]? = some o ∧ o.isCells = false) → ∀ r, row = some r → w.heap.size ≤ r ∧ ∃ o : Obj, X.heap[r]? = some o ∧ o.isCells = false :=
      fun hr r e => ⟨by have := (hr r e).1; omega, (hr r e).2⟩
    refine (hseq (w.heap.size + 1) (fun pre W => I pre W ∧ W.heap[w.heap.size + 1]? = some (.loop (rc .ready none)) ∧ W.heap[w.heap.size]? = some (.deferred (some [])))
      (fun pre W => ∃ c, Ix c pre W ∧ W.heap[w.heap.size + 1]? = some (.loop (rc .done (some c))) ∧ W.heap[w.heap.size]? = some (.deferred (some []))) V hbV
      (fun s X Y row hs hg' hr => ⟨hI s X Y row hs.1 hg' (up hr), grown_obj hs.2.1 hg' hr (by omega), grown_obj hs.2.2 hg' hr (by omega)⟩)
      (fun s X Y row hs hg' hr => by
        obtain ⟨c, h1, h2, h3⟩ := hs
        exact ⟨c, hIx c s X Y row h1 hg' (up hr), grown_obj h2 hg' hr (by omega), grown_obj h3 hg' hr (by omega)⟩) ?_ ⟨hIV, lr, ld⟩).mono ?_
    · rintro pre x X ⟨hi, hl, hd⟩ hlen
      have hy := run_yield (P := P) (args := encs x) hl (by rw [hrc]; exact hps x)
      rw [hrc] at hy
      refine ⟨fn, _, assign, body, hy, roundIn_of_wpIn hfn (hassign _ pre x X _ hi (fun a' X' hkf hkp hi' hax => ⟨_, run_beginRound (hkf.same _ _ (by omega) hl rfl) (by rw [hrc]), ?_⟩))⟩
      have hlX := hkf.same _ _ (by omega) hl rfl
      have hdX := hkf.same _ _ (by omega) hd rfl
      have hlt : w.heap.size + 1 < X'.heap.size := (Array.getElem?_eq_some_iff.1 hlX).1
      obtain ⟨Y, hY⟩ : ∃ Y, X'.putObj (w.heap.size + 1) (.loop { rc .ready none with state := .busy }) = Y := ⟨_, rfl⟩
      rw [hY]
      have yl : Y.heap[w.heap.size + 1]? = some (.loop { rc .ready none with state := .busy }) := by rw [← hY]; exact World.putObj_heap_same hlt
      have yd : Y.heap[w.heap.size]? = some (.deferred (some [])) := by rw [← hY]; exact (World.putObj_heap_other (by omega)).trans hdX
      have yi : I pre Y := by rw [← hY]; exact hI.putObj _ hi' (by omega) hlX rfl
      have yk : Kp X' Y := by rw [← hY]; exact hKb _ _ _ _ (by omega) hlX rfl rfl
      have ys : Y.heap.size = X'.heap.size := by rw [← hY]; simp [World.putObj]
      have yx : Ax x a' Y := by rw [← hY]; exact (hAx x a').putObj (s := ()) _ hax (by omega) hlX rfl
      refine wpIn_mono (hbody _ pre x a' Y yi yx hlen) ?_
      have fin : ∀ (jump : Option Code) (Z : World), KeepsFrom w.heap.size Y Z →
          (Instr.endRound (w.heap.size + 1) jump).run P Z = .ok (.bool jump.isNone) (Z.putObj (w.heap.size + 1) (.loop (rc (if jump.isNone then .ready else .done) jump))) ∧
          Z.heap[w.heap.size + 1]? = some (.loop { rc .ready none with state := .busy }) ∧
          (Z.putObj (w.heap.size + 1) (.loop (rc (if jump.isNone then .ready else .done) jump))).heap[w.heap.size + 1]? = some (.loop (rc (if jump.isNone then .ready else .done) jump)) ∧
          (Z.putObj (w.heap.size + 1) (.loop (rc (if jump.isNone then .ready else .done) jump))).heap[w.heap.size]? = some (.deferred (some [])) ∧
          KeepsFrom V.heap.size X (Z.putObj (w.heap.size + 1) (.loop (rc (if jump.isNone then .ready else .done) jump))) := fun jump Z hk => by
        have zl := hk.same _ _ (by omega) yl rfl
        have := run_endRound (P := P) jump zl
        rw [hrc] at this ⊢
        refine ⟨this, by rw [hrc] at zl; exact zl, World.putObj_heap_same (Array.getElem?_eq_some_iff.1 zl).1, (World.putObj_heap_other (by omega)).trans (hk.same _ _ (Nat.le_refl _) yd rfl), ?_, fun k o hk1 hk2 hk3 => ?_⟩
        · have := hk.size; have := hkf.size; simp [World.putObj]; omega
        · refine (World.putObj_heap_other (by omega)).trans (hk.same k o (by omega) ?_ hk3)
          rw [← hY]
          exact (World.putObj_heap_other (by omega)).trans (hkf.same k o (by omega) hk2 hk3)
      rintro e a3 Z hp
      cases e with
      | normal =>
        obtain ⟨hk3, hkp3, hi3⟩ := hp
        obtain ⟨hr, hl3, hl4, hk4, hkf⟩ := fin none Z hk3
        exact ⟨_, _, hr, hkf, .inl ⟨rfl, ⟨hI.putObj _ hi3 (by omega) hl3 rfl, hl4, hk4⟩, hKt (hKt (hKt hkp yk) hkp3) (hKb _ _ _ _ (by omega) hl3 rfl rfl)⟩⟩
      | ret =>
        obtain ⟨hk3, hi3⟩ := hp
        obtain ⟨hr, hl3, hl4, hk4, hkf⟩ := fin (some .ret) Z hk3
        exact ⟨_, _, hr, hkf, .inr ⟨rfl, .ret, (hIx _).putObj _ hi3 (by omega) hl3 rfl, hl4, hk4⟩⟩
      | exit id' =>
        obtain ⟨hk3, hi3⟩ := hp
        obtain ⟨hr, hl3, hl4, hk4, hkf⟩ := fin (some (.exit id')) Z hk3
        exact ⟨_, _, hr, hkf, .inr ⟨rfl, .exit id', (hIx _).putObj _ hi3 (by omega) hl3 rfl, hl4, hk4⟩⟩
      | goto t =>
        obtain ⟨hk3, hi3⟩ := hp
        obtain ⟨hr, hl3, hl4, hk4, hkf⟩ := fin (some (.goto t)) Z hk3
        exact ⟨_, _, hr, hkf, .inr ⟨rfl, .goto t, (hIx _).putObj _ hi3 (by omega) hl3 rfl, hl4, hk4⟩⟩
      | panic ch => exact hp.elim
      | outgrown => exact hp.elim
    · rintro e Z ⟨⟨v, rfl⟩, (⟨xs, hS, hi, hl, hk⟩ | ⟨pre, hSp, c, hi, hl, hk⟩)⟩
      · exact ⟨none, _, by have := run_endLoop (P := P) hl (by rw [hrc]; simp); rw [hrc] at this; exact this, hrest _ _ (Nat.le_refl _) (hall xs _ hS (hI.putObj _ hi (by omega) hl rfl)) ((World.putObj_heap_other (by omega)).trans hk)⟩
      · have hix := (hIx c).putObj (.loop { rc .done (some c) with state := .exhausted }) hi (by omega) hl rfl
        obtain ⟨rfl, hM⟩ := hleft c pre _ hSp hix
        exact ⟨some (.exit id), _, by have := run_endLoop (P := P) hl (by rw [hrc]; simp); rw [hrc] at this ⊢; exact this, wpIn_exit (hq _ _ (hrest _ _ (Nat.le_refl _) hM ((World.putObj_heap_other (by omega)).trans hk)))⟩
theorem OwnFrom.up {β : Type} {B B' : Nat} {I : β → World → Prop} (h : OwnFrom B I) (hB : B ≤ B') : OwnFrom B' I := fun s X Y row hs hg hr => h s X Y row hs hg (fun r e => ⟨by have := (hr r e).1; omega, (hr r e).2⟩)
theorem KeepsFrom.up {B B' : Nat} {V V' : World} (h : KeepsFrom B V V') (hB : B ≤ B') : KeepsFrom B' V V' := ⟨h.size, fun k o hk => h.same k o (by omega)⟩
/-- But these blocks, cells are as they were. -/
structure KeptC (S : Nat → Prop) (W W' : World) : Prop where
  size : W.heap.size ≤ W'.heap.size
  kept : ∀ (k : Nat) (t : TypeId) (cs : Array Value), Has W k t cs → ¬ S k → Has W' k t cs
theorem KeptC.refl (S : Nat → Prop) (W : World) : KeptC S W W := ⟨Nat.le_refl _, fun _ _ _ h _ => h⟩
theorem KeptC.trans {S : Nat → Prop} {A B C : World} (h : KeptC S A B) (k : KeptC S B C) : KeptC S A C := ⟨Nat.le_trans h.size k.size, fun j t cs h1 h2 => k.kept j t cs (h.kept j t cs h1 h2) h2⟩
theorem KeptC.below {S : Nat → Prop} {A B : World} (h : Below A.heap.size A B) : KeptC S A B := ⟨h.size, fun _ _ _ h1 _ => h1.below h h1.lt⟩
theorem KeptC.setCell {S : Nat → Prop} {A B : World} (h : KeptC S A B) {k : Nat} (hp : S k) (i : Nat) (u : Value) : KeptC S A (B.setCell ⟨k, i, none⟩ u) :=
  h.trans ⟨by simp [World.setCell], fun j t cs h1 h2 => h1.other (fun e => h2 (e ▸ hp)) u⟩
theorem KeptC.putObj {S : Nat → Prop} (W : World) (l : Nat) (o o' : Obj) (h : W.heap[l]? = some o) (hc : o.isCells = false) : KeptC S W (W.putObj l o') := ⟨by simp [World.putObj], fun k t cs h1 _ => by
  refine h1.put_obj o' (fun e => ?_)
  subst e
  have h1' : W.heap[k]? = some (.cells cs t (0, 0)) := h1
  rw [h1'] at h
  rw [← Option.some.inj h] at hc
  cases hc⟩
end Go.Proofs.YtbmemkbfignlaaaGreatDoor

namespace Go.Proofs.YtbmemkbfignlaaaGreatDoor
open Go.RowKit
attribute [local go_sem] Oper.semAt_some class_at0 class_at1 class_at2

/-! ## Token's parts, whole -/
/-- What a part is, and where the next one begins. -/
def PartA (k : Nat) (c : UInt8) (t : List UInt8) (q : Bool) (w : World) (e : Ending) (w' : World) : Prop :=
  Only k w w' ∧ e = .returned (.tuple #[.string ⟨(aheadL c t q).toArray⟩, .bool (findL c t q).isSome]) ∧ ∀ r, findL c t q = some r → RdAt w' k r false ∧ r.length < t.length
set_option maxRecDepth 100000 in
set_option maxHeartbeats 2000000 in
theorem part_all (k : Nat) (c : UInt8) (hc34 : c ≠ 34) (t : List UInt8) (q : Bool) (w : World) (hk : RdAt w k t q) (ht : t.length ≤ 1000000) : Calls Tryz.prog 229 #[.pointer (some ⟨k, 0, none⟩), .int .u8 (c.toNat : Int)] w (PartA k c t q w) := by
  unfold PartA
  obtain ⟨c0, -, -, -⟩ := hk.facts
  have hk' := Lib.hid hk
  clear hk
  go_enter Tryz.func229, Tryz.ntmps229
  go_wp2
  go_loopw [] (fun W => ∃ u p, RdAt W k u p ∧ u.length ≤ t.length ∧ findL c t q = findL c u p ∧ Only k w W) (fun W => leftN W k)
  case atStart => exact ⟨t, q, hk'.out, Nat.le_refl _, rfl, Only.refl _ _⟩
  case round =>
    obtain ⟨u, p, hrd, hul, hf, ho⟩ := hrel
    clear c0
    have ho' := Lib.hid ho
    have hleft := Lib.hid hrd.left
    cases u with
    | nil =>
      have hst := Lib.hid (step_none k p wr hrd)
      have hf' := Lib.hid (show findL c t q = none by rw [hf]; rfl)
      have hrd' := Lib.hid hrd
      clear hf hrd ho
      go_wp2_with (go_at_call 233; (with_reducible refine Calls.mono hst.out ?_); rintro e w2 ⟨rfl, hw2⟩; obtain rfl := hw2.symm)
      go_ret2
      refine ⟨ho'.out, ?_, fun r h => ?_⟩
      · unfold aheadL; rw [hf'.out]; rfl
      · rw [hf'.out] at h; cases h
    | cons b r =>
      have hst := Lib.hid (step_any k b r p wr hrd)
      have hbc := beq8 b c
      have hsl := stepS_len b r p
      have hul2 : r.length + 1 ≤ t.length := by simpa using hul
      unfold StepR at hst
      by_cases hc : b = c ∧ p = false
      · have hf' := Lib.hid (show findL c t q = some r by rw [hf]; exact findL_yes r hc)
        obtain ⟨hc1, rfl⟩ := hc
        rw [decide_eq_true hc1] at hbc
        have hs1 : (stepS b r false).1 = r := by unfold stepS; split <;> simp
        rw [hs1] at hst
        rw [show (stepS b r false).2 = false by unfold stepS; rw [if_neg (fun h => hc34 (hc1.symm.trans h)), if_neg (by simp)]] at hst
        have hx := cut_str t 0 (t.length - r.length - 1)
        rw [List.drop_zero] at hx
        have hx' := Lib.hid hx
        clear hf hrd ho hsl hs1 hc1 hx
        generalize (b.toNat : Int) = x at *
        go_wp2_with (go_at_call 233; (with_reducible refine Calls.mono hst.out ?_); rintro e w2 ⟨rfl, hrd2, ho2⟩; have hrd2' := Lib.hid hrd2; have ho2' := Lib.hid (ho'.out.trans ho2); have d0 := hrd2.facts.1; clear hrd2 ho2)
        go_ret2
        refine ⟨ho2'.out, ?_, fun r' h => ?_⟩
        rotate_left
        · rw [hf'.out] at h
          obtain rfl := Option.some.inj h
          exact ⟨hrd2'.out, by omega⟩
        unfold aheadL
        rw [hf'.out]
        simp only
        rw [← hx'.out]
        rfl
      · have hf' := Lib.hid (show findL c t q = findL c (stepS b r p).1 (stepS b r p).2 by rw [hf]; exact findL_no r hc)
        have hor : (b ≠ c) ∨ (b = c ∧ p = true) := by
          by_cases h : b = c
          · exact .inr ⟨h, by cases p with
              | true => rfl
              | false => exact absurd ⟨h, rfl⟩ hc⟩
          · exact .inl h
        have hl2 := Lib.hid (show (stepS b r p).1.length < (b :: r).length by simp; omega)
        clear hf hrd ho hc
        generalize (stepS b r p).1 = u2 at *
        generalize (stepS b r p).2 = q2 at *
        generalize b :: r = u at *
        rcases hor with h | ⟨h, rfl⟩
        · rw [decide_eq_false h] at hbc
          clear h
          generalize (b.toNat : Int) = x at *
          go_wp2_with (go_at_call 233; (with_reducible refine Calls.mono hst.out ?_); rintro e w2 ⟨rfl, hrd2, ho2⟩; have hrd2' := Lib.hid hrd2; have ho2' := Lib.hid (ho'.out.trans ho2); have d0 := hrd2.facts.1; clear hrd2 ho2)
          exact ⟨⟨u2, q2, hrd2'.out, by have := hl2.out; omega, hf'.out, ho2'.out⟩, by rw [hrd2'.out.left, hleft.out]; exact hl2.out⟩
        · rw [decide_eq_true h] at hbc
          clear h
          generalize (b.toNat : Int) = x at *
          go_wp2_with (go_at_call 233; (with_reducible refine Calls.mono hst.out ?_); rintro e w2 ⟨rfl, hrd2, ho2⟩; have hrd2' := Lib.hid hrd2; have ho2' := Lib.hid (ho'.out.trans ho2); have d0 := hrd2.facts.1; clear hrd2 ho2)
          exact ⟨⟨u2, q2, hrd2'.out, by have := hl2.out; omega, hf'.out, ho2'.out⟩, by rw [hrd2'.out.left, hleft.out]; exact hl2.out⟩
end Go.Proofs.YtbmemkbfignlaaaGreatDoor
