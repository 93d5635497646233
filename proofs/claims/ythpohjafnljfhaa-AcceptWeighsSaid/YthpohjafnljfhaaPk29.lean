import Derived.Test.YthpohjafnljfhaaPk28
import Derived.Lib.IndexLaws
import Derived.Lib.SplitLaws
namespace Go.Proofs.Ythpohjafnljfhaa

/-! ## How the program comes to a range: mathematics -/
namespace Ac
/-! ### What stands ahead of a byte -/
def tw (k : UInt8) (s : List UInt8) : List UInt8 := s.takeWhile (· != k)
def bh (k : UInt8) (s : List UInt8) : List UInt8 := (s.dropWhile (· != k)).drop 1
theorem tw_cases (k : UInt8) (s : List UInt8) : (s = tw k s ∧ s.dropWhile (· != k) = [] ∧ bh k s = []) ∨ (s = tw k s ++ k :: bh k s ∧ s.dropWhile (· != k) = k :: bh k s) := by
  have e := (List.takeWhile_append_dropWhile (p := (· != k)) (l := s)).symm
  cases hd : s.dropWhile (· != k) with
  | nil =>
    refine .inl ⟨?_, rfl, by unfold bh; rw [hd]; rfl⟩
    rw [hd, List.append_nil] at e
    exact e
  | cons c v =>
    have hc : c = k := by
      have hne : s.dropWhile (· != k) ≠ [] := by rw [hd]; simp
      have := List.head_dropWhile_not (· != k) hne
      simp only [hd, List.head_cons] at this
      simpa using this
    subst hc
    have hb : bh c s = v := by unfold bh; rw [hd]; rfl
    refine .inr ⟨?_, by rw [hb]⟩
    rw [hb, ← hd]
    exact e
theorem tw_not (k : UInt8) (s : List UInt8) : k ∉ tw k s := fun h => by
  have := mem_takeWhile h
  simp at this
theorem tw_len (k : UInt8) (s : List UInt8) : (tw k s).length ≤ s.length := by
  rcases tw_cases k s with ⟨h, _⟩ | ⟨h, _⟩
  · rw [← h]; exact Nat.le_refl _
  · have := congrArg List.length h; simp at this; omega
theorem bh_len (k : UInt8) (s : List UInt8) : (bh k s).length ≤ s.length := by
  rcases tw_cases k s with ⟨_, _, h⟩ | ⟨h, _⟩
  · rw [h]; simp
  · have := congrArg List.length h; simp at this; omega
theorem mid_take (a b : List UInt8) (k : UInt8) : (a ++ k :: b).take a.length = a := by simp
theorem mid_drop (b : List UInt8) (k : UInt8) : ∀ a : List UInt8, (a ++ k :: b).drop (a.length + 1) = b
  | [] => rfl
  | _ :: r => mid_drop b k r
theorem index_tw (k : UInt8) : ∀ s : List UInt8, (Lib.index s [k] = -1 ∧ s.dropWhile (· != k) = []) ∨ (Lib.index s [k] = ((tw k s).length : Int) ∧ s.dropWhile (· != k) ≠ [])
  | [] => .inl ⟨rfl, rfl⟩
  | c :: r => by
    have ih := index_tw k r
    by_cases h : c = k
    · subst h
      refine .inr ⟨?_, ?_⟩
      · simp [Lib.index, List.isPrefixOf, tw]
      · simp
    · have hp : ([k] : List UInt8).isPrefixOf (c :: r) = false := by simp [List.isPrefixOf]; exact fun e => h e.symm
      have hi : Lib.index (c :: r) [k] = if Lib.index r [k] == -1 then -1 else Lib.index r [k] + 1 := by
        conv => lhs; unfold Lib.index
        rw [hp]; rfl
      have hb : (c != k) = true := by simpa using h
      have e1 : (c :: r).dropWhile (· != k) = r.dropWhile (· != k) := by rw [List.dropWhile_cons, if_pos hb]
      have e2 : tw k (c :: r) = c :: tw k r := by unfold tw; rw [List.takeWhile_cons, if_pos hb]
      rw [hi, e1, e2, List.length_cons]
      rcases ih with ⟨e3, e4⟩ | ⟨e3, e4⟩
      · exact .inl ⟨by rw [if_pos (beq_iff_eq.2 e3)], e4⟩
      · refine .inr ⟨?_, e4⟩
        rw [if_neg (fun e => by have := beq_iff_eq.1 e; omega), e3]
        push_cast
        rfl
theorem cut_tw (k : UInt8) (s : List UInt8) : (Lib.cut s [k]).1 = tw k s ∧ (Lib.cut s [k]).2.1 = bh k s := by
  have hc := tw_cases k s
  unfold Lib.cut
  rcases index_tw k s with ⟨e1, e2⟩ | ⟨e1, e2⟩
  · rw [if_neg (by omega)]
    rcases hc with ⟨h1, _, h3⟩ | ⟨_, h2⟩
    · exact ⟨h1, h3.symm⟩
    · rw [h2] at e2; cases e2
  · rw [if_pos (by omega), e1]
    rcases hc with ⟨_, h2, _⟩ | ⟨h1, _⟩
    · exact absurd h2 e2
    · have hn : ((tw k s).length : Int).toNat = (tw k s).length := by simp
      refine ⟨?_, ?_⟩
      · show s.take (((tw k s).length : Int).toNat) = _
        have := mid_take (tw k s) (bh k s) k
        rw [← h1] at this
        rw [hn, this]
      · show s.drop (((tw k s).length : Int).toNat + _) = _
        have := mid_drop (bh k s) k (tw k s)
        rw [← h1] at this
        rw [hn]
        exact this
/-! ### Type and subtype -/
def names (h : List UInt8) : Option (List UInt8 × List UInt8) := match h.dropWhile (· != 47) with
  | [] => none
  | _ :: u => if token (lower (h.takeWhile (· != 47))) = true ∧ token (lower u) = true ∧ ¬ (lower (h.takeWhile (· != 47)) = [42] ∧ lower u ≠ [42]) then some (lower (h.takeWhile (· != 47)), lower u) else none
theorem one_names (t : List UInt8) : one t = match (sp 59 false t).map trim with
    | [] => none
    | h :: ps => (names h).bind fun n => (pars 0 ps).map fun x => ⟨n.1, n.2, x.1, x.2⟩ := by
  unfold one
  cases (sp 59 false t).map trim with
  | nil => rfl
  | cons h ps =>
    simp only [names]
    cases h.dropWhile (· != 47) with
    | nil => rfl
    | cons c u =>
      simp only
      split <;> simp
theorem tok_low : ∀ n : Fin 256, tok (low (UInt8.ofNat n.1)) = tok (UInt8.ofNat n.1) ∧ (low (UInt8.ofNat n.1) = 42 ↔ UInt8.ofNat n.1 = 42) := by decide +kernel
theorem tok_lowB (b : UInt8) : tok (low b) = tok b ∧ (low b = 42 ↔ b = 42) := by
  have h := tok_low ⟨b.toNat, b.toNat_lt⟩
  simpa using h
theorem token_lower (s : List UInt8) : token (lower s) = token s := by
  unfold token lower
  rw [List.all_map]
  have : (tok ∘ low) = tok := funext fun b => (tok_lowB b).1
  rw [this]
  cases s <;> rfl
theorem lower_star (s : List UInt8) : lower s = [42] ↔ s = [42] := by
  unfold lower
  cases s with
  | nil => simp
  | cons a r =>
    cases r with
    | nil => simp [(tok_lowB a).2]
    | cons b v => simp
/-- As the program has it. -/
theorem names_eq (h : List UInt8) : names h = if token (tw 47 h) = true ∧ token (bh 47 h) = true ∧ ¬ (tw 47 h = [42] ∧ bh 47 h ≠ [42]) then some (lower (tw 47 h), lower (bh 47 h)) else none := by
  unfold names
  rcases tw_cases 47 h with ⟨_, h2, h3⟩ | ⟨_, h2⟩
  · rw [h2, h3]
    simp [token]
  · rw [h2]
    show (if token (lower (tw 47 h)) = true ∧ token (lower (bh 47 h)) = true ∧ ¬ (lower (tw 47 h) = [42] ∧ lower (bh 47 h) ≠ [42]) then some (lower (tw 47 h), lower (bh 47 h)) else none) = _
    simp only [token_lower, ne_eq, lower_star]
/-! ### A parameter -/
theorem sp_head (c : UInt8) (s : List UInt8) : ∃ t, sp c false s = aheadL c s false :: t := by
  cases hf : findL c s false with
  | none => exact ⟨[], sp_none hf⟩
  | some r => exact ⟨_, sp_some hf⟩
theorem sp_plain {c : UInt8} (hc : c ≠ 34) : ∀ {x : List UInt8}, (∀ b ∈ x, b ≠ 34) → c ∉ x → sp c false x = [x]
  | [], _, _ => rfl
  | b :: r, h1, h2 => by
    rw [sp_step r (by simp), if_neg (fun e => h2 (by rw [← e.1]; exact List.mem_cons_self)), if_neg (h1 b List.mem_cons_self), sp_plain hc (fun x hx => h1 x (List.mem_cons_of_mem _ hx)) (fun hx => h2 (List.mem_cons_of_mem _ hx))]
    rfl
theorem ahead_plain {c : UInt8} (hc : c ≠ 34) (s : List UInt8) (h : 34 ∉ tw c s) : aheadL c s false = tw c s := by
  have h34 : ∀ b ∈ tw c s, b ≠ 34 := fun b hb e => h (e ▸ hb)
  obtain ⟨t, ht⟩ := sp_head c s
  rcases tw_cases c s with ⟨h1, _⟩ | ⟨h1, _⟩
  · have := sp_plain hc h34 (tw_not c s)
    rw [← h1, ht] at this
    rw [← h1]
    exact (List.cons.inj this).1
  · have e := sp_append hc (bh c s) false (tw c s) (st_plain h34)
    rw [← h1, sp_plain hc h34 (tw_not c s), ht] at e
    exact (List.cons.inj e).1
theorem sp_quote {c : UInt8} (hc : c ≠ 34) : ∀ {s : List UInt8}, 34 ∈ tw c s → ∃ p t, sp c false s = p :: t ∧ 34 ∈ p
  | [], h => by simp [tw] at h
  | b :: r, h => by
    have hb : b ≠ c := fun e => by
      subst e
      simp [tw] at h
    have e : tw c (b :: r) = b :: tw c r := by unfold tw; rw [List.takeWhile_cons, if_pos (by simpa using hb)]
    rw [sp_step r (by simp), if_neg (fun x => hb x.1)]
    by_cases h34 : b = 34
    · subst h34
      rw [if_pos rfl]
      cases hs : sp c (!false) r with
      | nil => exact absurd hs (sp_ne _ _ _)
      | cons p t => exact ⟨34 :: p, t, rfl, List.mem_cons_self⟩
    · rw [if_neg h34]
      rw [e] at h
      rcases List.mem_cons.1 h with h | h
      · exact absurd h.symm h34
      · obtain ⟨p, t, hs, hp⟩ := sp_quote hc h
        rw [hs]
        exact ⟨b :: p, t, rfl, List.mem_cons_of_mem _ hp⟩
theorem ahead_quote {c : UInt8} (hc : c ≠ 34) {s : List UInt8} (h : 34 ∈ tw c s) : 34 ∈ aheadL c s false := by
  obtain ⟨p, t, h1, h2⟩ := sp_quote hc h
  obtain ⟨t', h3⟩ := sp_head c s
  rw [h3] at h1
  rw [(List.cons.inj h1).1]
  exact h2
theorem token_no34 {s : List UInt8} (h : 34 ∈ s) : token (trim s) = false := by
  cases ht : token (trim s) with
  | false => rfl
  | true => exact absurd rfl (trim_34 (token_34 ht) 34 h)
/-- As the program has it. -/
theorem param_eq (s : List UInt8) : param s = (if tokenL (trimL (aheadL 61 s false)) = true then
    (if (aheadL 61 s false).length < s.length then
      (if tokenL (trimL (s.drop ((aheadL 61 s false).length + 1))) = true then some (lowerL (trimL (aheadL 61 s false)), trimL (s.drop ((aheadL 61 s false).length + 1)))
       else (quotedL (trimL (s.drop ((aheadL 61 s false).length + 1)))).map fun t => (lowerL (trimL (aheadL 61 s false)), t))
     else some (lowerL (trimL (aheadL 61 s false)), [])) else none) := by
  by_cases h : 34 ∈ tw 61 s
  · have h1 := token_no34 h
    have h2 := token_no34 (ahead_quote (by decide) h)
    rw [token_eq, trim_eq] at h2
    rw [h2]
    unfold param
    rw [show s.takeWhile (· != 61) = tw 61 s from rfl, h1]
    simp
  · have e := ahead_plain (c := 61) (by decide) s h
    rw [e]
    unfold param
    rw [show s.takeWhile (· != 61) = tw 61 s from rfl, token_eq, trim_eq]
    by_cases ht : tokenL (trimL (tw 61 s)) = true
    · rw [if_pos ht, if_pos ht]
      rcases tw_cases 61 s with ⟨h1, h2, _⟩ | ⟨h1, h2⟩
      · rw [h2]
        simp only
        rw [← h1, if_neg (Nat.lt_irrefl _)]
        rfl
      · rw [h2]
        simp only
        have hl : (tw 61 s).length < s.length := by have := congrArg List.length h1; simp at this; omega
        have hd : s.drop ((tw 61 s).length + 1) = bh 61 s := by
          have := mid_drop (bh 61 s) 61 (tw 61 s)
          rw [← h1] at this
          exact this
        rw [if_pos hl, hd]
        simp only [token_eq, trim_eq, lower_eq, quoted_eq]
    · rw [if_neg ht, if_neg ht]
/-! ### Parameters -/
def parsS (k q : Nat) (wd : Bool) (ps : List (List UInt8)) : Option (Nat × Nat) := if wd = true then (if (ps.all fun p => p.isEmpty || (param p).isSome) = true then some (k, q) else none) else pars k ps
theorem parsS_empty (k q : Nat) (wd : Bool) (r : List (List UInt8)) : parsS k q wd ([] :: r) = parsS k q wd r := by
  unfold parsS
  cases wd with
  | true => simp
  | false => simp [pars]
theorem parsS_none {k q : Nat} {wd : Bool} {p : List UInt8} {r : List (List UInt8)} (h0 : p ≠ []) (h : param p = none) : parsS k q wd (p :: r) = none := by
  unfold parsS
  cases wd with
  | true =>
    cases p with
    | nil => exact absurd rfl h0
    | cons a b => simp [h]
  | false => simp [pars, h0, h]
theorem parsS_more {k q : Nat} {p n v : List UInt8} {r : List (List UInt8)} (h0 : p ≠ []) (h : param p = some (n, v)) : parsS k q true (p :: r) = parsS k q true r := by
  unfold parsS
  simp [h]
theorem parsS_other {k q : Nat} {p n v : List UInt8} {r : List (List UInt8)} (h0 : p ≠ []) (h : param p = some (n, v)) (hn : n ≠ [113]) : parsS k q false (p :: r) = parsS (k + 1) q false r := by
  unfold parsS
  simp [pars, h0, h, hn]
theorem parsS_bad {k q : Nat} {p v : List UInt8} {r : List (List UInt8)} (h0 : p ≠ []) (h : param p = some ([113], v)) (ht : thou v = none) : parsS k q false (p :: r) = none := by
  unfold parsS
  simp [pars, h0, h, ht]
theorem parsS_q {k q q' : Nat} {p v : List UInt8} {r : List (List UInt8)} (h0 : p ≠ []) (h : param p = some ([113], v)) (ht : thou v = some q') : parsS k q false (p :: r) = parsS k q' true r := by
  unfold parsS
  simp [pars, h0, h, ht]
theorem parsS_end (k q : Nat) (wd : Bool) (h : wd = false → q = 1000) : parsS k q wd [] = some (k, q) := by
  unfold parsS
  cases wd with
  | true => simp
  | false => rw [h rfl]; simp [pars]
/-! ### Thousandths -/
def dig (b : UInt8) : Bool := 48 ≤ b && b ≤ 57
def sumT : Nat → List UInt8 → Nat
  | _, [] => 0
  | w, b :: r => w * (b.toNat - 48) + sumT (w / 10) r
def thouP (a d : List UInt8) : Option Nat := if (a = [48] ∨ a = [49]) ∧ d.length ≤ 3 ∧ (∀ b ∈ a ++ d, dig b = true) ∧ sumT 1000 (a ++ d) ≤ 1000 then some (sumT 1000 (a ++ d)) else none
theorem sum_pad (d : List UInt8) (h : d.length ≤ 3) : (d ++ List.replicate (3 - d.length) 48).foldl (fun (n : Nat) (b : UInt8) => 10 * n + (b.toNat - 48)) 0 = sumT 100 d := by
  rcases d with _ | ⟨x, _ | ⟨y, _ | ⟨z, _ | ⟨u, v⟩⟩⟩⟩
  · rfl
  · simp [List.replicate, sumT]; omega
  · simp [List.replicate, sumT]; omega
  · simp [List.replicate, sumT]; omega
  · simp at h
theorem sum_small (d : List UInt8) (h : d.length ≤ 3) (hd : ∀ b ∈ d, dig b = true) : sumT 100 d ≤ 999 := by
  have k : ∀ b ∈ d, b.toNat - 48 ≤ 9 := fun b hb => by
    have := hd b hb
    unfold dig at this
    rw [Bool.and_eq_true, decide_eq_true_iff, decide_eq_true_iff] at this
    have := UInt8.le_iff_toNat_le.1 this.2
    have h2 : (57 : UInt8).toNat = 57 := rfl
    omega
  rcases d with _ | ⟨x, _ | ⟨y, _ | ⟨z, _ | ⟨u, v⟩⟩⟩⟩
  · simp [sumT]
  · have := k x (by simp); simp [sumT]; omega
  · have := k x (by simp); have := k y (by simp); simp [sumT]; omega
  · have := k x (by simp); have := k y (by simp); have := k z (by simp); simp [sumT]; omega
  · simp at h
theorem sum_zero (d : List UInt8) (h : d.length ≤ 3) (hd : ∀ b ∈ d, dig b = true) : sumT 100 d = 0 ↔ (d.all fun b => b == 48) = true := by
  have k : ∀ b ∈ d, (b.toNat - 48 = 0 ↔ b = 48) := fun b hb => by
    have := hd b hb
    unfold dig at this
    rw [Bool.and_eq_true, decide_eq_true_iff, decide_eq_true_iff] at this
    have := UInt8.le_iff_toNat_le.1 this.1
    have h2 : (48 : UInt8).toNat = 48 := rfl
    rw [← UInt8.toNat_inj]
    omega
  rcases d with _ | ⟨x, _ | ⟨y, _ | ⟨z, _ | ⟨u, v⟩⟩⟩⟩
  · simp [sumT]
  · have k1 := k x (by simp); simp only [sumT, List.all_cons, List.all_nil, Bool.and_true, Bool.and_eq_true, beq_iff_eq, ← k1]; omega
  · have k1 := k x (by simp); have k2 := k y (by simp); simp only [sumT, List.all_cons, List.all_nil, Bool.and_true, Bool.and_eq_true, beq_iff_eq, ← k1, ← k2]; omega
  · have k1 := k x (by simp); have k2 := k y (by simp); have k3 := k z (by simp); simp only [sumT, List.all_cons, List.all_nil, Bool.and_true, Bool.and_eq_true, beq_iff_eq, ← k1, ← k2, ← k3]; omega
  · simp at h
theorem all_dig (d : List UInt8) : (d.all fun b => 48 ≤ b && b ≤ 57) = true ↔ ∀ b ∈ d, dig b = true := by rw [List.all_eq_true]; rfl
theorem thou_eq (s : List UInt8) : thou s = thouP (tw 46 s) (bh 46 s) := by
  have key0 : ∀ r : List UInt8, thou (48 :: 46 :: r) = thouP [48] r := fun r => by
    unfold thouP
    have e : sumT 1000 ([48] ++ r) = sumT 100 r := by simp [sumT]
    by_cases h : r.length ≤ 3 ∧ ∀ b ∈ r, dig b = true
    · have h1 := sum_small r h.1 h.2
      rw [if_pos ⟨.inl rfl, h.1, fun b hb => by
        rcases List.mem_cons.1 (show b ∈ 48 :: r from hb) with rfl | hb
        · rfl
        · exact h.2 b hb, by omega⟩, e]
      show (if r.length ≤ 3 ∧ r.all (fun b => 48 ≤ b && b ≤ 57) = true then _ else none) = _
      rw [if_pos ⟨h.1, (all_dig r).2 h.2⟩, sum_pad r h.1]
    · rw [if_neg (fun h' => h ⟨h'.2.1, fun b hb => h'.2.2.1 b (List.mem_append_right _ hb)⟩)]
      show (if r.length ≤ 3 ∧ r.all (fun b => 48 ≤ b && b ≤ 57) = true then _ else none) = _
      rw [if_neg (fun h' => h ⟨h'.1, (all_dig r).1 h'.2⟩)]
  have key1 : ∀ r : List UInt8, thou (49 :: 46 :: r) = thouP [49] r := fun r => by
    unfold thouP
    have e : sumT 1000 ([49] ++ r) = 1000 + sumT 100 r := by simp [sumT]
    show (if r.length ≤ 3 ∧ r.all (fun b => b == 48) = true then some 1000 else none) = _
    by_cases h : r.length ≤ 3 ∧ r.all (fun b => b == 48) = true
    · have hd : ∀ b ∈ r, dig b = true := fun b hb => by
        have := List.all_eq_true.1 h.2 b hb
        rw [beq_iff_eq.1 this]; rfl
      have h0 := (sum_zero r h.1 hd).2 h.2
      rw [if_pos h, if_pos ⟨.inr rfl, h.1, fun b hb => by
        rcases List.mem_cons.1 (show b ∈ 49 :: r from hb) with rfl | hb
        · rfl
        · exact hd b hb, by omega⟩, e, h0]
    · rw [if_neg h, if_neg (fun h' => h ⟨h'.2.1, (sum_zero r h'.2.1 (fun b hb => h'.2.2.1 b (List.mem_append_right _ hb))).1 (by have := h'.2.2.2; omega)⟩)]
  rcases tw_cases 46 s with ⟨h1, _, h3⟩ | ⟨h1, _⟩
  · rw [h3]
    by_cases h8 : tw 46 s = [48]
    · rw [h1, h8]; rfl
    · by_cases h9 : tw 46 s = [49]
      · rw [h1, h9]; rfl
      · have : thouP (tw 46 s) [] = none := by unfold thouP; rw [if_neg (fun h => h.1.elim h8 h9)]
        rw [this]
        unfold thou
        split
        · exact absurd (by decide) h8
        · exact absurd (by decide) h9
        · exact absurd (by simp [tw]) h8
        · exact absurd (by simp [tw]) h9
        · rfl
  · by_cases h8 : tw 46 s = [48]
    · conv => lhs; rw [h1]
      rw [h8]
      exact key0 _
    · by_cases h9 : tw 46 s = [49]
      · conv => lhs; rw [h1]
        rw [h9]
        exact key1 _
      · have : thouP (tw 46 s) (bh 46 s) = none := by unfold thouP; rw [if_neg (fun h => h.1.elim h8 h9)]
        rw [this]
        unfold thou
        split
        · exact absurd (by decide) h8
        · exact absurd (by decide) h9
        · exact absurd (by simp [tw]) h8
        · exact absurd (by simp [tw]) h9
        · rfl
end Ac
end Go.Proofs.Ythpohjafnljfhaa
