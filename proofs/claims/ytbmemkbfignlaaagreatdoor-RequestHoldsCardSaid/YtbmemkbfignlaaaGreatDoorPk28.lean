import Derived.Test.YtbmemkbfignlaaaGreatDoorPk27
import Derived.Lib.IndexLaws
import Derived.Lib.SplitLaws
import Derived.Test.YtbmemkbfignlaaaGreatDoorPk43
import Derived.RangeFuncNested
import Derived.RangeFuncBox
import Derived.RangeFuncBound
import Derived.RangeFuncCalls
import Derived.OwnWalkIn
import Derived.TacticsInMore
import Derived.LoopNIn
import Derived.LoopIn
import Derived.Stop.RegionWithIn
import Derived.Test.YtbmemkbfignlaaaGreatDoorPk18
import Derived.Deep.Cut
import Derived.Sort.BigQuietIn
import Derived.BigQuiet
import Derived.Deep.QuietTactic
namespace Go.Proofs.YtbmemkbfignlaaaGreatDoor

/-! ## How the program comes to a range: mathematics -/
namespace Ac
/-! ### What stands ahead of a byte -/
def tw (k : UInt8) (s : List UInt8) : List UInt8 := s.takeWhile (· != k)
def bh (k : UInt8) (s : List UInt8) : List UInt8 := (s.dropWhile (· != k)).drop 1
theorem tw_cases (k : UInt8) (s : List UInt8) : (s = tw k s ∧ s.dropWhile (· != k) = [] ∧ bh k s = []) ∨ (s = tw k s ++ k :: bh k s ∧ s.dropWhile (· != k) = k :: bh k s) := by
  have e := (List.takeWhile_append_dropWhile (p := (· != k)) (l := s)).symm
  cases hd : s.dropWhile (· != k) with
  | nil =>
    refine .inl ⟨?_, rfl, by unfold bh; rw [hd]; rfl⟩
    rw [hd, List.append_nil] at e
    exact e
  | cons c v =>
    have hc : c = k := by
      have hne : s.dropWhile (· != k) ≠ [] := by rw [hd]; simp
      have := List.head_dropWhile_not (· != k) hne
      simp only [hd, List.head_cons] at this
      simpa using this
    subst hc
    have hb : bh c s = v := by unfold bh; rw [hd]; rfl
    refine .inr ⟨?_, by rw [hb]⟩
    rw [hb, ← hd]
    exact e
theorem tw_not (k : UInt8) (s : List UInt8) : k ∉ tw k s := fun h => by
  have := mem_takeWhile h
  simp at this
theorem tw_len (k : UInt8) (s : List UInt8) : (tw k s).length ≤ s.length := by
  rcases tw_cases k s with ⟨h, _⟩ | ⟨h, _⟩
  · rw [← h]; exact Nat.le_refl _
  · have := congrArg List.length h; simp at this; omega
theorem bh_len (k : UInt8) (s : List UInt8) : (bh k s).length ≤ s.length := by
  rcases tw_cases k s with ⟨_, _, h⟩ | ⟨h, _⟩
  · rw [h]; simp
  · have := congrArg List.length h; simp at this; omega
theorem mid_take (a b : List UInt8) (k : UInt8) : (a ++ k :: b).take a.length = a := by simp
theorem mid_drop (b : List UInt8) (k : UInt8) : ∀ a : List UInt8, (a ++ k :: b).drop (a.length + 1) = b
  | [] => rfl
  | _ :: r => mid_drop b k r
theorem index_tw (k : UInt8) : ∀ s : List UInt8, (Lib.index s [k] = -1 ∧ s.dropWhile (· != k) = []) ∨ (Lib.index s [k] = ((tw k s).length : Int) ∧ s.dropWhile (· != k) ≠ [])
  | [] => .inl ⟨rfl, rfl⟩
  | c :: r => by
    have ih := index_tw k r
    by_cases h : c = k
    · subst h
      refine .inr ⟨?_, ?_⟩
      · simp [Lib.index, List.isPrefixOf, tw]
      · simp
    · have hp : ([k] : List UInt8).isPrefixOf (c :: r) = false := by simp [List.isPrefixOf]; exact fun e => h e.symm
      have hi : Lib.index (c :: r) [k] = if Lib.index r [k] == -1 then -1 else Lib.index r [k] + 1 := by
        conv => lhs; unfold Lib.index
        rw [hp]; rfl
      have hb : (c != k) = true := by simpa using h
      have e1 : (c :: r).dropWhile (· != k) = r.dropWhile (· != k) := by rw [List.dropWhile_cons, if_pos hb]
      have e2 : tw k (c :: r) = c :: tw k r := by unfold tw; rw [List.takeWhile_cons, if_pos hb]
      rw [hi, e1, e2, List.length_cons]
      rcases ih with ⟨e3, e4⟩ | ⟨e3, e4⟩
      · exact .inl ⟨by rw [if_pos (beq_iff_eq.2 e3)], e4⟩
      · refine .inr ⟨?_, e4⟩
        rw [if_neg (fun e => by have := beq_iff_eq.1 e; omega), e3]
        push_cast
        rfl
theorem cut_tw (k : UInt8) (s : List UInt8) : (Lib.cut s [k]).1 = tw k s ∧ (Lib.cut s [k]).2.1 = bh k s := by
  have hc := tw_cases k s
  unfold Lib.cut
  rcases index_tw k s with ⟨e1, e2⟩ | ⟨e1, e2⟩
  · rw [if_neg (by omega)]
    rcases hc with ⟨h1, _, h3⟩ | ⟨_, h2⟩
    · exact ⟨h1, h3.symm⟩
    · rw [h2] at e2; cases e2
  · rw [if_pos (by omega), e1]
    rcases hc with ⟨_, h2, _⟩ | ⟨h1, _⟩
    · exact absurd h2 e2
    · have hn : ((tw k s).length : Int).toNat = (tw k s).length := by simp
      refine ⟨?_, ?_⟩
      · show s.take (((tw k s).length : Int).toNat) = _
        have := mid_take (tw k s) (bh k s) k
        rw [← h1] at this
        rw [hn, this]
      · show s.drop (((tw k s).length : Int).toNat + _) = _
        have := mid_drop (bh k s) k (tw k s)
        rw [← h1] at this
        rw [hn]
        exact this
/-! ### Type and subtype -/
def names (h : List UInt8) : Option (List UInt8 × List UInt8) := match h.dropWhile (· != 47) with
  | [] => none
  | _ :: u => if token (lower (h.takeWhile (· != 47))) = true ∧ token (lower u) = true ∧ ¬ (lower (h.takeWhile (· != 47)) = [42] ∧ lower u ≠ [42]) then some (lower (h.takeWhile (· != 47)), lower u) else none
theorem one_names (t : List UInt8) : one t = match (sp 59 false t).map trim with
    | [] => none
    | h :: ps => (names h).bind fun n => (pars 0 ps).map fun x => ⟨n.1, n.2, x.1, x.2⟩ := by
  unfold one
  cases (sp 59 false t).map trim with
  | nil => rfl
  | cons h ps =>
    simp only [names]
    cases h.dropWhile (· != 47) with
    | nil => rfl
    | cons c u =>
      simp only
      split <;> simp
theorem tok_low : ∀ n : Fin 256, tok (low (UInt8.ofNat n.1)) = tok (UInt8.ofNat n.1) ∧ (low (UInt8.ofNat n.1) = 42 ↔ UInt8.ofNat n.1 = 42) := by decide +kernel
theorem tok_lowB (b : UInt8) : tok (low b) = tok b ∧ (low b = 42 ↔ b = 42) := by
  have h := tok_low ⟨b.toNat, b.toNat_lt⟩
  simpa using h
theorem token_lower (s : List UInt8) : token (lower s) = token s := by
  unfold token lower
  rw [List.all_map]
  have : (tok ∘ low) = tok := funext fun b => (tok_lowB b).1
  rw [this]
  cases s <;> rfl
theorem lower_star (s : List UInt8) : lower s = [42] ↔ s = [42] := by
  unfold lower
  cases s with
  | nil => simp
  | cons a r =>
    cases r with
    | nil => simp [(tok_lowB a).2]
    | cons b v => simp
/-- As the program has it. -/
theorem names_eq (h : List UInt8) : names h = if token (tw 47 h) = true ∧ token (bh 47 h) = true ∧ ¬ (tw 47 h = [42] ∧ bh 47 h ≠ [42]) then some (lower (tw 47 h), lower (bh 47 h)) else none := by
  unfold names
  rcases tw_cases 47 h with ⟨_, h2, h3⟩ | ⟨_, h2⟩
  · rw [h2, h3]
    simp [token]
  · rw [h2]
    show (if token (lower (tw 47 h)) = true ∧ token (lower (bh 47 h)) = true ∧ ¬ (lower (tw 47 h) = [42] ∧ lower (bh 47 h) ≠ [42]) then some (lower (tw 47 h), lower (bh 47 h)) else none) = _
    simp only [token_lower, ne_eq, lower_star]
/-! ### A parameter -/
theorem sp_head (c : UInt8) (s : List UInt8) : ∃ t, sp c false s = aheadL c s false :: t := by
  cases hf : findL c s false with
  | none => exact ⟨[], sp_none hf⟩
  | some r => exact ⟨_, sp_some hf⟩
theorem sp_plain {c : UInt8} (hc : c ≠ 34) : ∀ {x : List UInt8}, (∀ b ∈ x, b ≠ 34) → c ∉ x → sp c false x = [x]
  | [], _, _ => rfl
  | b :: r, h1, h2 => by
    rw [sp_step r (by simp), if_neg (fun e => h2 (by rw [← e.1]; exact List.mem_cons_self)), if_neg (h1 b List.mem_cons_self), sp_plain hc (fun x hx => h1 x (List.mem_cons_of_mem _ hx)) (fun hx => h2 (List.mem_cons_of_mem _ hx))]
    rfl
theorem ahead_plain {c : UInt8} (hc : c ≠ 34) (s : List UInt8) (h : 34 ∉ tw c s) : aheadL c s false = tw c s := by
  have h34 : ∀ b ∈ tw c s, b ≠ 34 := fun b hb e => h (e ▸ hb)
  obtain ⟨t, ht⟩ := sp_head c s
  rcases tw_cases c s with ⟨h1, _⟩ | ⟨h1, _⟩
  · have := sp_plain hc h34 (tw_not c s)
    rw [← h1, ht] at this
    rw [← h1]
    exact (List.cons.inj this).1
  · have e := sp_append hc (bh c s) false (tw c s) (st_plain h34)
    rw [← h1, sp_plain hc h34 (tw_not c s), ht] at e
    exact (List.cons.inj e).1
theorem sp_quote {c : UInt8} (hc : c ≠ 34) : ∀ {s : List UInt8}, 34 ∈ tw c s → ∃ p t, sp c false s = p :: t ∧ 34 ∈ p
  | [], h => by simp [tw] at h
  | b :: r, h => by
    have hb : b ≠ c := fun e => by
      subst e
      simp [tw] at h
    have e : tw c (b :: r) = b :: tw c r := by unfold tw; rw [List.takeWhile_cons, if_pos (by simpa using hb)]
    rw [sp_step r (by simp), if_neg (fun x => hb x.1)]
    by_cases h34 : b = 34
    · subst h34
      rw [if_pos rfl]
      cases hs : sp c (!false) r with
      | nil => exact absurd hs (sp_ne _ _ _)
      | cons p t => exact ⟨34 :: p, t, rfl, List.mem_cons_self⟩
    · rw [if_neg h34]
      rw [e] at h
      rcases List.mem_cons.1 h with h | h
      · exact absurd h.symm h34
      · obtain ⟨p, t, hs, hp⟩ := sp_quote hc h
        rw [hs]
        exact ⟨b :: p, t, rfl, List.mem_cons_of_mem _ hp⟩
theorem ahead_quote {c : UInt8} (hc : c ≠ 34) {s : List UInt8} (h : 34 ∈ tw c s) : 34 ∈ aheadL c s false := by
  obtain ⟨p, t, h1, h2⟩ := sp_quote hc h
  obtain ⟨t', h3⟩ := sp_head c s
  rw [h3] at h1
  rw [(List.cons.inj h1).1]
  exact h2
theorem token_no34 {s : List UInt8} (h : 34 ∈ s) : token (trim s) = false := by
  cases ht : token (trim s) with
  | false => rfl
  | true => exact absurd rfl (trim_34 (token_34 ht) 34 h)
/-- As the program has it. -/
theorem param_eq (s : List UInt8) : param s = (if tokenL (trimL (aheadL 61 s false)) = true then
    (if (aheadL 61 s false).length < s.length then
      (if tokenL (trimL (s.drop ((aheadL 61 s false).length + 1))) = true then some (lowerL (trimL (aheadL 61 s false)), trimL (s.drop ((aheadL 61 s false).length + 1)))
       else (quotedL (trimL (s.drop ((aheadL 61 s false).length + 1)))).map fun t => (lowerL (trimL (aheadL 61 s false)), t))
     else some (lowerL (trimL (aheadL 61 s false)), [])) else none) := by
  by_cases h : 34 ∈ tw 61 s
  · have h1 := token_no34 h
    have h2 := token_no34 (ahead_quote (by decide) h)
    rw [token_eq, trim_eq] at h2
    rw [h2]
    unfold param
    rw [show s.takeWhile (· != 61) = tw 61 s from rfl, h1]
    simp
  · have e := ahead_plain (c := 61) (by decide) s h
    rw [e]
    unfold param
    rw [show s.takeWhile (· != 61) = tw 61 s from rfl, token_eq, trim_eq]
    by_cases ht : tokenL (trimL (tw 61 s)) = true
    · rw [if_pos ht, if_pos ht]
      rcases tw_cases 61 s with ⟨h1, h2, _⟩ | ⟨h1, h2⟩
      · rw [h2]
        simp only
        rw [← h1, if_neg (Nat.lt_irrefl _)]
        rfl
      · rw [h2]
        simp only
        have hl : (tw 61 s).length < s.length := by have := congrArg List.length h1; simp at this; omega
        have hd : s.drop ((tw 61 s).length + 1) = bh 61 s := by
          have := mid_drop (bh 61 s) 61 (tw 61 s)
          rw [← h1] at this
          exact this
        rw [if_pos hl, hd]
        simp only [token_eq, trim_eq, lower_eq, quoted_eq]
    · rw [if_neg ht, if_neg ht]
/-! ### Parameters -/
def parsS (k q : Nat) (wd : Bool) (ps : List (List UInt8)) : Option (Nat × Nat) := if wd = true then (if (ps.all fun p => p.isEmpty || (param p).isSome) = true then some (k, q) else none) else pars k ps
theorem parsS_empty (k q : Nat) (wd : Bool) (r : List (List UInt8)) : parsS k q wd ([] :: r) = parsS k q wd r := by
  unfold parsS
  cases wd with
  | true => simp
  | false => simp [pars]
theorem parsS_none {k q : Nat} {wd : Bool} {p : List UInt8} {r : List (List UInt8)} (h0 : p ≠ []) (h : param p = none) : parsS k q wd (p :: r) = none := by
  unfold parsS
  cases wd with
  | true =>
    cases p with
    | nil => exact absurd rfl h0
    | cons a b => simp [h]
  | false => simp [pars, h0, h]
theorem parsS_more {k q : Nat} {p n v : List UInt8} {r : List (List UInt8)} (h0 : p ≠ []) (h : param p = some (n, v)) : parsS k q true (p :: r) = parsS k q true r := by
  unfold parsS
  simp [h]
theorem parsS_other {k q : Nat} {p n v : List UInt8} {r : List (List UInt8)} (h0 : p ≠ []) (h : param p = some (n, v)) (hn : n ≠ [113]) : parsS k q false (p :: r) = parsS (k + 1) q false r := by
  unfold parsS
  simp [pars, h0, h, hn]
theorem parsS_bad {k q : Nat} {p v : List UInt8} {r : List (List UInt8)} (h0 : p ≠ []) (h : param p = some ([113], v)) (ht : thou v = none) : parsS k q false (p :: r) = none := by
  unfold parsS
  simp [pars, h0, h, ht]
theorem parsS_q {k q q' : Nat} {p v : List UInt8} {r : List (List UInt8)} (h0 : p ≠ []) (h : param p = some ([113], v)) (ht : thou v = some q') : parsS k q false (p :: r) = parsS k q' true r := by
  unfold parsS
  simp [pars, h0, h, ht]
theorem parsS_end (k q : Nat) (wd : Bool) (h : wd = false → q = 1000) : parsS k q wd [] = some (k, q) := by
  unfold parsS
  cases wd with
  | true => simp
  | false => rw [h rfl]; simp [pars]
/-! ### Thousandths -/
def dig (b : UInt8) : Bool := 48 ≤ b && b ≤ 57
def sumT : Nat → List UInt8 → Nat
  | _, [] => 0
  | w, b :: r => w * (b.toNat - 48) + sumT (w / 10) r
def thouP (a d : List UInt8) : Option Nat := if (a = [48] ∨ a = [49]) ∧ d.length ≤ 3 ∧ (∀ b ∈ a ++ d, dig b = true) ∧ sumT 1000 (a ++ d) ≤ 1000 then some (sumT 1000 (a ++ d)) else none
theorem sum_pad (d : List UInt8) (h : d.length ≤ 3) : (d ++ List.replicate (3 - d.length) 48).foldl (fun (n : Nat) (b : UInt8) => 10 * n + (b.toNat - 48)) 0 = sumT 100 d := by
  rcases d with _ | ⟨x, _ | ⟨y, _ | ⟨z, _ | ⟨u, v⟩⟩⟩⟩
  · rfl
  · simp [List.replicate, sumT]; omega
  · simp [List.replicate, sumT]; omega
  · simp [List.replicate, sumT]; omega
  · simp at h
theorem sum_small (d : List UInt8) (h : d.length ≤ 3) (hd : ∀ b ∈ d, dig b = true) : sumT 100 d ≤ 999 := by
  have k : ∀ b ∈ d, b.toNat - 48 ≤ 9 := fun b hb => by
    have := hd b hb
    unfold dig at this
    rw [Bool.and_eq_true, decide_eq_true_iff, decide_eq_true_iff] at this
    have := UInt8.le_iff_toNat_le.1 this.2
    have h2 : (57 : UInt8).toNat = 57 := rfl
    omega
  rcases d with _ | ⟨x, _ | ⟨y, _ | ⟨z, _ | ⟨u, v⟩⟩⟩⟩
  · simp [sumT]
  · have := k x (by simp); simp [sumT]; omega
  · have := k x (by simp); have := k y (by simp); simp [sumT]; omega
  · have := k x (by simp); have := k y (by simp); have := k z (by simp); simp [sumT]; omega
  · simp at h
theorem sum_zero (d : List UInt8) (h : d.length ≤ 3) (hd : ∀ b ∈ d, dig b = true) : sumT 100 d = 0 ↔ (d.all fun b => b == 48) = true := by
  have k : ∀ b ∈ d, (b.toNat - 48 = 0 ↔ b = 48) := fun b hb => by
    have := hd b hb
    unfold dig at this
    rw [Bool.and_eq_true, decide_eq_true_iff, decide_eq_true_iff] at this
    have := UInt8.le_iff_toNat_le.1 this.1
    have h2 : (48 : UInt8).toNat = 48 := rfl
    rw [← UInt8.toNat_inj]
    omega
  rcases d with _ | ⟨x, _ | ⟨y, _ | ⟨z, _ | ⟨u, v⟩⟩⟩⟩
  · simp [sumT]
  · have k1 := k x (by simp); simp only [sumT, List.all_cons, List.all_nil, Bool.and_true, Bool.and_eq_true, beq_iff_eq, ← k1]; omega
  · have k1 := k x (by simp); have k2 := k y (by simp); simp only [sumT, List.all_cons, List.all_nil, Bool.and_true, Bool.and_eq_true, beq_iff_eq, ← k1, ← k2]; omega
  · have k1 := k x (by simp); have k2 := k y (by simp); have k3 := k z (by simp); simp only [sumT, List.all_cons, List.all_nil, Bool.and_true, Bool.and_eq_true, beq_iff_eq, ← k1, ← k2, ← k3]; omega
  · simp at h
theorem all_dig (d : List UInt8) : (d.all fun b => 48 ≤ b && b ≤ 57) = true ↔ ∀ b ∈ d, dig b = true := by rw [List.all_eq_true]; rfl
theorem thou_eq (s : List UInt8) : thou s = thouP (tw 46 s) (bh 46 s) := by
  have key0 : ∀ r : List UInt8, thou (48 :: 46 :: r) = thouP [48] r := fun r => by
    unfold thouP
    have e : sumT 1000 ([48] ++ r) = sumT 100 r := by simp [sumT]
    by_cases h : r.length ≤ 3 ∧ ∀ b ∈ r, dig b = true
    · have h1 := sum_small r h.1 h.2
      rw [if_pos ⟨.inl rfl, h.1, fun b hb => by
        rcases List.mem_cons.1 (show b ∈ 48 :: r from hb) with rfl | hb
        · rfl
        · exact h.2 b hb, by omega⟩, e]
      show (if r.length ≤ 3 ∧ r.all (fun b => 48 ≤ b && b ≤ 57) = true then _ else none) = _
      rw [if_pos ⟨h.1, (all_dig r).2 h.2⟩, sum_pad r h.1]
    · rw [if_neg (fun h' => h ⟨h'.2.1, fun b hb => h'.2.2.1 b (List.mem_append_right _ hb)⟩)]
      show (if r.length ≤ 3 ∧ r.all (fun b => 48 ≤ b && b ≤ 57) = true then _ else none) = _
      rw [if_neg (fun h' => h ⟨h'.1, (all_dig r).1 h'.2⟩)]
  have key1 : ∀ r : List UInt8, thou (49 :: 46 :: r) = thouP [49] r := fun r => by
    unfold thouP
    have e : sumT 1000 ([49] ++ r) = 1000 + sumT 100 r := by simp [sumT]
    show (if r.length ≤ 3 ∧ r.all (fun b => b == 48) = true then some 1000 else none) = _
    by_cases h : r.length ≤ 3 ∧ r.all (fun b => b == 48) = true
    · have hd : ∀ b ∈ r, dig b = true := fun b hb => by
        have := List.all_eq_true.1 h.2 b hb
        rw [beq_iff_eq.1 this]; rfl
      have h0 := (sum_zero r h.1 hd).2 h.2
      rw [if_pos h, if_pos ⟨.inr rfl, h.1, fun b hb => by
        rcases List.mem_cons.1 (show b ∈ 49 :: r from hb) with rfl | hb
        · rfl
        · exact hd b hb, by omega⟩, e, h0]
    · rw [if_neg h, if_neg (fun h' => h ⟨h'.2.1, (sum_zero r h'.2.1 (fun b hb => h'.2.2.1 b (List.mem_append_right _ hb))).1 (by have := h'.2.2.2; omega)⟩)]
  rcases tw_cases 46 s with ⟨h1, _, h3⟩ | ⟨h1, _⟩
  · rw [h3]
    by_cases h8 : tw 46 s = [48]
    · rw [h1, h8]; rfl
    · by_cases h9 : tw 46 s = [49]
      · rw [h1, h9]; rfl
      · have : thouP (tw 46 s) [] = none := by unfold thouP; rw [if_neg (fun h => h.1.elim h8 h9)]
        rw [this]
        unfold thou
        split
        · exact absurd (by decide) h8
        · exact absurd (by decide) h9
        · exact absurd (by simp [tw]) h8
        · exact absurd (by simp [tw]) h9
        · rfl
  · by_cases h8 : tw 46 s = [48]
    · conv => lhs; rw [h1]
      rw [h8]
      exact key0 _
    · by_cases h9 : tw 46 s = [49]
      · conv => lhs; rw [h1]
        rw [h9]
        exact key1 _
      · have : thouP (tw 46 s) (bh 46 s) = none := by unfold thouP; rw [if_neg (fun h => h.1.elim h8 h9)]
        rw [this]
        unfold thou
        split
        · exact absurd (by decide) h8
        · exact absurd (by decide) h9
        · exact absurd (by simp [tw]) h8
        · exact absurd (by simp [tw]) h9
        · rfl
end Ac
end Go.Proofs.YtbmemkbfignlaaaGreatDoor

namespace Go.Proofs.YtbmemkbfignlaaaGreatDoor
open Go.RowKit
attribute [local go_sem] Oper.semAt_some
attribute [local go_sem] wide_fn wide_depth wide_round

/-! ## A range over a function that is left in its first round -/
/-- What an iterator may have done: below B nothing; from B on what is no cells stays, or is a loop's own. -/
structure Turn (B : Nat) (a b : World) : Prop where
  os : b.os = a.os
  tape : b.tape = a.tape
  output : b.output = a.output
  size : a.heap.size ≤ b.heap.size
  low : ∀ k, k < B → k < a.heap.size → b.heap[k]? = a.heap[k]?
section
variable {B : Nat} {a b c : World}
theorem Turn.refl (B : Nat) (a : World) : Turn B a a := ⟨rfl, rfl, rfl, Nat.le_refl _, fun _ _ _ => rfl⟩
theorem Turn.trans (h : Turn B a b) (k : Turn B b c) : Turn B a c := ⟨k.os.trans h.os, k.tape.trans h.tape, k.output.trans h.output, Nat.le_trans h.size k.size, fun i hi hl => (k.low i hi (Nat.lt_of_lt_of_le hl h.size)).trans (h.low i hi hl)⟩
theorem Turn.of_below (h : Below B a b) : Turn B a b := ⟨h.os, h.tape, h.output, h.size, fun k hk _ => h.block k hk⟩
theorem Turn.of_belowA (h : Below a.heap.size a b) : Turn B a b := ⟨h.os, h.tape, h.output, h.size, fun k _ hl => h.block k hl⟩
theorem Turn.alloc (B : Nat) (a : World) (o : Obj) : Turn B a (a.alloc o) := .of_belowA ((Below.refl _ _).alloc (Nat.le_refl _) _)
theorem Turn.putObj {l : Nat} {o : Obj} (o' : Obj) (hB : B ≤ l) (_ : a.heap[l]? = some o) (_ : o.isCells = false) : Turn B a (a.putObj l o') :=
  ⟨rfl, rfl, rfl, by simp [World.putObj], fun k hk _ => World.putObj_heap_other (by omega)⟩
theorem Turn.down {B' : Nat} (h : Turn B' a b) (hB : B ≤ B') : Turn B a b := ⟨h.os, h.tape, h.output, h.size, fun k hk => h.low k (by omega)⟩
theorem Turn.obj {k : Nat} {o : Obj} (h : Turn B a b) (ho : a.heap[k]? = some o) (hB : k < B) : b.heap[k]? = some o := (h.low k hB (Array.getElem?_eq_some_iff.1 ho).1).trans ho
theorem Turn.has {k : Nat} {cs : Array Value} {t : TypeId} (h : Turn B a b) (ho : Has a k t cs) (hB : k < B) : Has b k t cs := h.obj ho hB
theorem Turn.only {g : Nat} (h : Only g a b) (hg : B ≤ g) : Turn B a b := .of_below (h.below hg)
theorem Turn.on {w : World} (h : Turn w.heap.size a b) (hw : Below w.heap.size w a) : Below w.heap.size w b :=
  ⟨h.os.trans hw.os, h.tape.trans hw.tape, h.output.trans hw.output, Nat.le_trans hw.size h.size, fun k hk => (h.low k hk (Nat.lt_of_lt_of_le hk hw.size)).trans (hw.block k hk)⟩
end
/-- An iterator whose first round is left: what it tells there. -/
def SeqFirst {α : Type} (n : Nat) (P : Program) (gf : Nat) (lb : Array Value) (encs : α → Array Value) (x : α) (w : World) : Prop :=
  ∀ (l : Nat) (J Jx : World → Prop) (W : World), Below w.heap.size w W → (∀ X Y, J X → Turn W.heap.size X Y → J Y) → (∀ X Y, Jx X → Turn W.heap.size X Y → Jx Y) →
    (∀ V, J V → YieldAt Fence.wide (n - 1) P l (encs x) V fun e V' => KeepsFrom W.heap.size V V' ∧ e = .returned (.bool false) ∧ Jx V') → J W →
    CallsIn Fence.wide n P gf (#[.func (.yield l) #[] #[]] ++ lb) W fun e V => (∃ v, e = .returned v) ∧ Jx V
set_option maxHeartbeats 1000000 in
theorem wpIn_range_first {α : Type} {n : Nat} {P : Program} {g : Operand} {ps : Array Tmp} {assign body : Code} {Q : Exit → Act → World → Prop} {a : Act} {w : World} (id : Nat)
    {gf : Nat} {lb : Array Value} (hg : a.eval g = .func (.func gf) #[] lb) (eg : ∀ args w, (callFunc gf args).run P w = .ok (.enter gf args) w)
    {encs : α → Array Value} {x : α} {w0 : World} (hseq : SeqFirst (n - 1) P gf lb encs x w0)
    (hb0 : Below w0.heap.size w0 w) (hps : ∀ x, (encs x).size = ps.size)
    (I M : World → Prop) (hI : ∀ X Y, I X → Turn w.heap.size X Y → I Y) (hM : ∀ X Y, M X → Turn w.heap.size X Y → M Y) (h0 : I w) (a₁ : Act)
    (hassign : ∀ (l : Nat) (W : World) (K : Act → World → Prop), K a₁ W →
      assign.wpIn (Fence.wide.inRound l) (n - 1 - 1) P (Exit.then K (fun _ _ _ => False)) { tmps := (ps.zip (encs x)).foldl (fun t (p, v) => t.setIfInBounds p v) a.tmps, defers := [] } W)
    (hbody : ∀ (l : Nat) (W : World), I W → body.wpIn (Fence.wide.inRound l) (n - 1 - 1) P (fun e _ W' => e = .exit id ∧ KeepsFrom w.heap.size W W' ∧ M W') a₁ W)
    (hq : ∀ a W, Q .normal a W → Q (.exit id) a W)
    (hrest : ∀ (D : Nat) (W : World), w.heap.size ≤ D → M W → NoCalls W D → Q .normal { a with defers := { target := .collected D, args := #[] } :: a.defers } W) :
    (Code.rangeFunc g ps assign body).wpIn Fence.wide n P Q a w := by
  refine wpIn_rangeFunc fun fn hfn => ?_
  obtain ⟨rc, hrc⟩ : ∃ rc : LoopState → Option Code → Loop, rc = fun st pe => { state := st, pending := pe, fn, tmps := a.tmps, params := ps, assign, body, defers := w.heap.size } := ⟨_, rfl⟩
  obtain ⟨V, hV⟩ : ∃ V, (w.alloc (.deferred (some []))).alloc (.loop (rc .ready none)) = V := ⟨_, rfl⟩
  have zV : V.heap.size = w.heap.size + 1 + 1 := by rw [← hV]; simp
  have lr : V.heap[w.heap.size + 1]? = some (.loop (rc .ready none)) := by rw [← hV]; have := World.alloc_heap_new (w.alloc (.deferred (some []))) (.loop (rc .ready none)); rwa [World.size_alloc] at this
  have ld : V.heap[w.heap.size]? = some (.deferred (some [])) := by rw [← hV]; exact (Below.heap_alloc _ _ _ (by simp)).trans (World.alloc_heap_new w _)
  have hIV : I V := by rw [← hV]; exact hI _ _ h0 ((Turn.alloc _ _ _).trans (Turn.alloc _ _ _))
  have hbV : Below w0.heap.size w0 V := by rw [← hV]; exact hb0.trans ((((Below.refl _ w).alloc (Nat.le_refl _) _).alloc (by simp) _).mono hb0.size)
  refine ⟨w.heap.size + 1, [{ target := .collected w.heap.size, args := #[] }], V, { target := .fn (.func gf) lb, args := #[.func (.yield (w.heap.size + 1)) #[] #[]] }, V, gf, #[.func (.yield (w.heap.size + 1)) #[] #[]] ++ lb, V, ?_, ?_, fun _ _ => trivial, ?_, fun h => (by cases h), ?_⟩
  · rw [← hV, hrc]; exact run_enterLoop_outer _ _ _ _ _
  · simp only [resolve, hg]; simp [go_sem]
  · simp [invoke, go_sem, eg]
  · refine (hseq (w.heap.size + 1) (fun W => I W ∧ W.heap[w.heap.size + 1]? = some (.loop (rc .ready none)) ∧ W.heap[w.heap.size]? = some (.deferred (some [])))
      (fun W => M W ∧ W.heap[w.heap.size + 1]? = some (.loop (rc .done (some (.exit id)))) ∧ W.heap[w.heap.size]? = some (.deferred (some []))) V hbV
      (fun X Y hs ht => ⟨hI X Y hs.1 (ht.down (by omega)), ht.obj hs.2.1 (by omega), ht.obj hs.2.2 (by omega)⟩)
      (fun X Y hs ht => ⟨hM X Y hs.1 (ht.down (by omega)), ht.obj hs.2.1 (by omega), ht.obj hs.2.2 (by omega)⟩) ?_ ⟨hIV, lr, ld⟩).mono ?_
    · rintro X ⟨hi, hl, hd⟩
      have hy := run_yield (P := P) (args := encs x) hl (by rw [hrc]; exact hps x)
      rw [hrc] at hy
      refine ⟨fn, _, assign, body, hy, roundIn_of_wpIn hfn (hassign _ X _ ⟨_, run_beginRound hl (by rw [hrc]), ?_⟩)⟩
      have hlt : w.heap.size + 1 < X.heap.size := (Array.getElem?_eq_some_iff.1 hl).1
      obtain ⟨Y, hY⟩ : ∃ Y, X.putObj (w.heap.size + 1) (.loop { rc .ready none with state := .busy }) = Y := ⟨_, rfl⟩
      rw [hY]
      have yl : Y.heap[w.heap.size + 1]? = some (.loop { rc .ready none with state := .busy }) := by rw [← hY]; exact World.putObj_heap_same hlt
      have yd : Y.heap[w.heap.size]? = some (.deferred (some [])) := by rw [← hY]; exact (World.putObj_heap_other (by omega)).trans hd
      have yi : I Y := by rw [← hY]; exact hI _ _ hi (Turn.putObj _ (by omega) hl rfl)
      have ys : Y.heap.size = X.heap.size := by rw [← hY]; simp [World.putObj]
      refine wpIn_mono (hbody _ Y yi) ?_
      have fin : ∀ (jump : Option Code) (Z : World), KeepsFrom w.heap.size Y Z →
          (Instr.endRound (w.heap.size + 1) jump).run P Z = .ok (.bool jump.isNone) (Z.putObj (w.heap.size + 1) (.loop (rc (if jump.isNone then .ready else .done) jump))) ∧
          Z.heap[w.heap.size + 1]? = some (.loop { rc .ready none with state := .busy }) ∧
          (Z.putObj (w.heap.size + 1) (.loop (rc (if jump.isNone then .ready else .done) jump))).heap[w.heap.size + 1]? = some (.loop (rc (if jump.isNone then .ready else .done) jump)) ∧
          (Z.putObj (w.heap.size + 1) (.loop (rc (if jump.isNone then .ready else .done) jump))).heap[w.heap.size]? = some (.deferred (some [])) ∧
          KeepsFrom V.heap.size X (Z.putObj (w.heap.size + 1) (.loop (rc (if jump.isNone then .ready else .done) jump))) := fun jump Z hk => by
        have zl := hk.same _ _ (by omega) yl rfl
        have := run_endRound (P := P) jump zl
        rw [hrc] at this ⊢
        refine ⟨this, by rw [hrc] at zl; exact zl, World.putObj_heap_same (Array.getElem?_eq_some_iff.1 zl).1, (World.putObj_heap_other (by omega)).trans (hk.same _ _ (Nat.le_refl _) yd rfl), ?_, fun k o hk1 hk2 hk3 => ?_⟩
        · have := hk.size; simp [World.putObj]; omega
        · refine (World.putObj_heap_other (by omega)).trans (hk.same k o (by omega) ?_ hk3)
          rw [← hY]
          exact (World.putObj_heap_other (by omega)).trans hk2
      rintro e a3 Z ⟨rfl, hk3, hi3⟩
      obtain ⟨hr, hl3, hl4, hk4, hkf⟩ := fin (some (.exit id)) Z hk3
      exact ⟨_, _, hr, hkf, rfl, hM _ _ hi3 (Turn.putObj _ (by omega) hl3 rfl), hl4, hk4⟩
    · rintro e Z ⟨⟨v, rfl⟩, hi, hl, hk⟩
      have hix := hM _ _ hi (Turn.putObj (.loop { rc .done (some (.exit id)) with state := .exhausted }) (by omega) hl rfl)
      exact ⟨some (.exit id), _, by have := run_endLoop (P := P) hl (by rw [hrc]; simp); rw [hrc] at this ⊢; exact this, wpIn_exit (hq _ _ (hrest _ _ (Nat.le_refl _) hix ((World.putObj_heap_other (by omega)).trans hk)))⟩
def encP (x : Nat × List UInt8) : Array Value := #[.int .i64 (x.1 : Int), .string ⟨x.2.toArray⟩]
set_option maxRecDepth 100000 in
set_option maxHeartbeats 4000000 in
theorem parts1_first (n : Nat) (s : List UInt8) (c : UInt8) (hs : s.length ≤ 1000000) (B1 B2 : Nat) (w : World) (k1 : Has w B1 9 #[.string ⟨s.toArray⟩]) (k2 : Has w B2 5 #[.int .u8 (c.toNat : Int)]) :
    SeqFirst n Tryz.prog 228 #[.pointer (some ⟨B1, 0, none⟩), .pointer (some ⟨B2, 0, none⟩)] encP (0, aheadL c s false) w := by
  intro l J Jx W hW hJ hJx hY h0
  have k1 := k1.below hW k1.lt
  have k2 := k2.below hW k2.lt
  have c1 := k1.cell 0
  have hA : Below W.heap.size W (W.alloc (.cells #[.string ⟨s.toArray⟩, .bool false] 257)) := (Below.refl W.heap.size W).alloc (Nat.le_refl _) _
  have hJa := Lib.hid (hJ W _ h0 (Turn.of_below hA))
  have hra : RdAt (W.alloc (.cells #[.string ⟨s.toArray⟩, .bool false] 257)) W.heap.size s false := Has.new _ _ _
  have k2a := k2.below hA k2.lt
  have c2 := k2a.cell 0
  have hpa := Lib.hid ((callsIn_wide (n := n - 1)).2 (part_any W.heap.size c s false _ hra hs))
  unfold PartR at hpa
  have hY' := Lib.hid hY
  have hJ' := Lib.hid hJ
  clear hY hJ h0 hra k1 k2 k2a hA
  refine callsIn_of_wp Tryz.func228 rfl trivial ?_ rfl
  simp only [Tryz.ntmps228, List.size_toArray, List.length_cons, List.length_nil, Nat.reduceAdd, Nat.reduceSub, Array.replicate_succ, Array.replicate_zero, List.push_toArray, List.append_toArray, List.nil_append, List.cons_append]
  gi_wp2
  gi_loopw [5] (fun x wr => x = .int .i64 ((0 : Nat) : Int) ∧ wr = W.alloc (.cells #[.string ⟨s.toArray⟩, .bool false] 257)) (fun _ _ => 0)
  case atStart => exact ⟨rfl, rfl⟩
  case round =>
    obtain ⟨rfl, rfl⟩ := hrel
    gi_wp2_with fail
    refine hpa.out.mono ?_
    rintro e w2 ⟨ho2, rfl, t', q', hrd2, _, _⟩
    have hJ2 := hJ'.out _ _ hJa.out (Turn.only ho2 (Nat.le_refl _))
    obtain ⟨fn, tmps, assign, body, hy, hR⟩ := hY'.out w2 hJ2
    have hy' : (Instr.yield l #[.int .i64 0, .string ⟨(aheadL c s false).toArray⟩]).run Tryz.prog w2 = .ok (Next.round l fn tmps assign body) w2 := hy
    have hR' := Lib.hid hR
    clear hy hR hJ2 hrd2 ho2 hJa hpa hY' hJ'
    gi_wp2
    refine hR'.out.mono ?_
    rintro e W3 ⟨hk3, rfl, hx3⟩
    have hx3' := Lib.hid hx3
    clear hx3 hk3
    gi_wp2
    refine bodyPost_ret (results_none rfl _ _ _) rfl ?_
    exact ⟨⟨_, rfl⟩, hx3'.out⟩
theorem parts_any (s : List UInt8) (c : UInt8) (w : World) : Calls Tryz.prog 223 #[.string ⟨s.toArray⟩, .int .u8 (c.toNat : Int)] w fun e w' => e = .returned (.func (.func 228) #[] #[.pointer (some ⟨w.heap.size, 0, none⟩), .pointer (some ⟨w.heap.size + 1, 0, none⟩)]) ∧ w' = (w.alloc (.cells #[.string ⟨s.toArray⟩] 9)).alloc (.cells #[.int .u8 (c.toNat : Int)] 5) := by
  go_enter Tryz.func223, Tryz.ntmps223
  go_wp2
  go_ret
  exact ⟨rfl, rfl⟩
end Go.Proofs.YtbmemkbfignlaaaGreatDoor

namespace Go.Proofs.YtbmemkbfignlaaaGreatDoor
open Go.RowKit
attribute [local go_sem] Oper.semAt_some
attribute [local go_sem] wide_fn wide_depth wide_round

/-! ## A text cut in two -/
def CutR (a b : List UInt8) (w : World) (e : Ending) (w' : World) : Prop := e = .returned (.tuple #[.string ⟨a.toArray⟩, .string ⟨b.toArray⟩, .bool true]) ∧ Below w.heap.size w w'
set_option maxRecDepth 100000 in
set_option maxHeartbeats 4000000 in
theorem tkCut_any (s p : List UInt8) (c : UInt8) (w : World) (hs : s.length ≤ 1000000) (hp : aheadL c s false = p) (hl : p.length < s.length) : Calls Tryz.prog 231 #[.string ⟨s.toArray⟩, .int .u8 (c.toNat : Int)] w (CutR (trimL p) (trimL (s.drop (p.length + 1))) w) := by
  unfold CutR
  have k0 := Has.new w 9 #[.string ⟨s.toArray⟩]
  have hb0 : Below w.heap.size w (w.alloc (.cells #[.string ⟨s.toArray⟩] 9)) := (Below.refl _ _).alloc (Nat.le_refl _) _
  have k1 := (k0.alloc (.cells #[.string ⟨s.toArray⟩] 9)).alloc (.cells #[.int .u8 (c.toNat : Int)] 5)
  have k2 := (Has.new (w.alloc (.cells #[.string ⟨s.toArray⟩] 9)) 9 #[.string ⟨s.toArray⟩]).alloc (.cells #[.int .u8 (c.toNat : Int)] 5)
  have k3 := Has.new ((w.alloc (.cells #[.string ⟨s.toArray⟩] 9)).alloc (.cells #[.string ⟨s.toArray⟩] 9)) 5 #[.int .u8 (c.toNat : Int)]
  have hb3 := (hb0.alloc (by simp) (.cells #[.string ⟨s.toArray⟩] 9)).alloc (by simp; omega) (.cells #[.int .u8 (c.toNat : Int)] 5)
  simp only [World.size_alloc] at k2 k3
  have z3 : (((w.alloc (.cells #[.string ⟨s.toArray⟩] 9)).alloc (.cells #[.string ⟨s.toArray⟩] 9)).alloc (.cells #[.int .u8 (c.toNat : Int)] 5)).heap.size = w.heap.size + 1 + 1 + 1 := by simp
  have hpa := Lib.hid (parts_any s c (w.alloc (.cells #[.string ⟨s.toArray⟩] 9)))
  simp only [World.size_alloc] at hpa
  refine (callsIn_wide (n := 3)).1 ?_
  refine callsIn_of_wp_marks Tryz.func231 rfl trivial ?_ rfl
  refine wpIn_wide.2 ?_
  simp only [Tryz.ntmps231, List.size_toArray, List.length_cons, List.length_nil, Nat.reduceAdd, Nat.reduceSub, Array.replicate_succ, Array.replicate_zero, List.push_toArray, List.append_toArray, List.nil_append, List.cons_append]
  go_wp2
  refine wp_scope_straight ?_
  go_wp2
  go_step3
  go_wp2_with (go_at_call 223; (with_reducible refine Calls.mono hpa.out ?_); rintro e w3 ⟨rfl, hw3⟩; rw [← hw3] at k1 k2 k3 hb3 z3; clear hw3 hpa)
  have z3' := Lib.hid z3
  have hb3' := Lib.hid hb3
  have hp' := Lib.hid hp
  clear k0 hb0 hb3 z3 hp
  refine (wpIn_wide (n := 3)).1 ?_
  refine wpIn_range_first 0 (gf := 228) (lb := #[.pointer (some ⟨w.heap.size + 1, 0, none⟩), .pointer (some ⟨w.heap.size + 1 + 1, 0, none⟩)]) rfl (enters_of Tryz.func228 (by kernel_rfl) rfl)
    (parts1_first 2 s c hs (w.heap.size + 1) (w.heap.size + 1 + 1) w3 k2 k3) (Below.refl _ _) (fun _ => rfl)
    (fun V => Has V w.heap.size 9 #[.string ⟨s.toArray⟩] ∧ Below w.heap.size w V) (fun V => Has V w.heap.size 9 #[.string ⟨p.toArray⟩] ∧ Below w.heap.size w V)
    (fun X Y h ht => ⟨ht.has h.1 (by have := z3'.out; omega), (ht.down (by have := z3'.out; omega)).on h.2⟩) (fun X Y h ht => ⟨ht.has h.1 (by have := z3'.out; omega), (ht.down (by have := z3'.out; omega)).on h.2⟩)
    ⟨k1, hb3'.out⟩ ?a1 ?assign ?body (fun _ _ h => h) ?rest
  case assign =>
    intro l W K hK
    have hK' := Lib.hid hK
    clear hK
    rw [hp'.out]
    dsimp only [encP]
    gi_wp2
    exact hK'.out
  case body =>
    rintro l W ⟨hh, hb⟩
    have c0 := hh.cell 0
    have f0 := hh.free 0
    have hn := Lib.hid (hh.put 0 (.string ⟨p.toArray⟩))
    have hb' := Lib.hid (hb.setCell (p := ⟨w.heap.size, 0, none⟩) (Nat.le_refl _) (.string ⟨p.toArray⟩))
    clear hh hb
    gi_wp2
    exact ⟨⟨by simp [World.setCell], fun k o hk ho _ => (Below.heap_setCell W ⟨w.heap.size, 0, none⟩ _ k (by show k ≠ w.heap.size; have := z3'.out; omega)).trans ho⟩, by have := hn.out; simpa using this, hb'.out⟩
  case rest =>
    rintro D V hD ⟨hh, hb⟩ hk
    have cV := hh.cell 0
    have c0 := fun (V' : Grown V) => (hh.below V'.below hh.lt).cell 0
    have t1 := Lib.hid (fun (V' : Grown V) => callsIn_wide (n := 3 - 1).2 (grow_call V' (show Calls Tryz.prog 139 #[.string ⟨p.toArray⟩] V'.v fun e w' => e = .returned (.string ⟨(trimL p).toArray⟩) ∧ Below V'.v.heap.size V'.v w' from trim_any p V'.v (by omega))))
    have t2 := Lib.hid (fun (V' : Grown V) => callsIn_wide (n := 3 - 1).2 (grow_call V' (show Calls Tryz.prog 139 #[.string ⟨(s.drop (p.length + 1)).toArray⟩] V'.v fun e w' => e = .returned (.string ⟨(trimL (s.drop (p.length + 1))).toArray⟩) ∧ Below V'.v.heap.size V'.v w' from trim_any (s.drop (p.length + 1)) V'.v (by simp; omega))))
    have hne : ((p.length : Int) == (s.length : Int)) = false := by rw [beq_eq_false_iff_ne]; omega
    have hx : (⟨s.toArray⟩ : ByteArray).extract (p.length + 1) s.length = ⟨(s.drop (p.length + 1)).toArray⟩ := by rw [cut_str, List.take_length]
    have hb' := Lib.hid hb
    have hk' := Lib.hid hk
    have hDw : w.heap.size < D := by have := z3'.out; omega
    clear hb hk hh z3' hb3' hp' k1 k2 k3
    obtain ⟨u2, hu2⟩ : ∃ u, trimL (s.drop (p.length + 1)) = u := ⟨_, rfl⟩
    obtain ⟨u1, hu1⟩ : ∃ u, trimL p = u := ⟨_, rfl⟩
    rw [hu2] at t2
    rw [hu1] at t1
    have hu1' := Lib.hid hu1
    have hu2' := Lib.hid hu2
    clear hu1 hu2
    go_upto_region 6 with (fail)
    refine (wpIn_wide (n := 3)).1 ?_
    refine wpIn_region_grow (by kernel_rfl) (by kernel_rfl) (by kernel_rfl) ?_
    iterate 11 (gi_big_quiet_step (first
      | (gi_at_call 139; exact t1.out _)
      | (gi_at_call 139; exact t2.out _)))
    refine wpQuietIn_nil ?_
    intro _ hw'
    obtain ⟨V', hw''⟩ := hw'
    subst hw''
    clear c0
    go_wp2
    rw [Exit.noGoto_ret]
    have hkV := hk'.out.below V'.below hk'.out.lt
    refine ⟨by simp, .inl ⟨_, _, rfl, run_takeDeferred hkV, ?_⟩⟩
    refine ⟨.tuple #[.string ⟨u1.toArray⟩, .string ⟨u2.toArray⟩, .bool true], by simp [results, Tryz.results231, go_sem], by rw [hu1'.out, hu2'.out], ?_⟩
    exact (hb'.out.trans (V'.below.mono hb'.out.size)).trans ⟨rfl, rfl, rfl, by simp [World.putObj], fun k hk => World.putObj_heap_other (by omega)⟩
end Go.Proofs.YtbmemkbfignlaaaGreatDoor
