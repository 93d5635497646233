import Derived.Test.YtdkmajmmhngdpaaDoorFdH
namespace Go.Proofs.YtdkmajmmhngdpaaDoor
open Go.RowKit Go.Maps

/-! ## What a line says, some text says -/
theorem indexByte_no : ∀ (l : List UInt8), 58 ∉ l → Lib.indexByte l 58 = -1
  | [], _ => rfl
  | b :: r, h => by
    simp only [List.mem_cons, not_or] at h
    have hb : ¬ b = 58 := fun e => h.1 e.symm
    simp [Lib.indexByte, hb, indexByte_no r h.2]
theorem indexByte_yes : ∀ (l : List UInt8), 58 ∈ l → 0 ≤ Lib.indexByte l 58
  | [], h => absurd h (by simp)
  | b :: r, h => by
    by_cases hb : b = 58
    · simp [Lib.indexByte, hb]
    · have hr : 58 ∈ r := by
        rcases List.mem_cons.1 h with e | e
        · exact absurd e.symm hb
        · exact e
      have := indexByte_yes r hr
      simp only [Lib.indexByte, beq_iff_eq, hb, if_false]
      split <;> omega
theorem hasColon_iff (l : List UInt8) : hasColon l = false ↔ 58 ∉ l := by
  unfold hasColon
  constructor
  · intro h hm
    have := indexByte_yes l hm
    rw [decide_eq_true this] at h
    cases h
  · intro h
    rw [indexByte_no l h]
    rfl
theorem kindK_range (s : List UInt8) : 3 ≤ kindK s ∧ kindK s ≤ 7 := by
  unfold kindK
  (repeat' split) <;> omega
theorem fieldF_else {l : List UInt8} (h1 : l ≠ []) (h2 : l.head? ≠ some 58) : fieldF l = ((kindK (cutC l).1 : Int), (cutC l).1, Lib.trimPrefix (cutC l).2.1 [32]) ∧ (cutC l).1 ≠ [] := by
  cases l with
  | nil => exact absurd rfl h1
  | cons b r =>
    have hb : ¬ b = 58 := fun e => h2 (by simp [e])
    have hp : Lib.hasPrefix (b :: r) [58] = false := by (simp [Lib.hasPrefix, List.isPrefixOf]; exact fun e => hb e.symm)
    constructor
    · unfold fieldF
      rw [if_neg h1, hp, cut_cutC]
      rfl
    · unfold cutC
      rw [if_neg hb]
      simp
theorem fieldF_comment (r : List UInt8) : fieldF (58 :: r) = (2, [], r) := by
  unfold fieldF
  rw [if_neg (by simp)]
  have hp : Lib.hasPrefix (58 :: r) [58] = true := by simp [Lib.hasPrefix, List.isPrefixOf]
  rw [if_pos hp]
  simp [Lib.trimPrefix, Lib.hasPrefix, List.isPrefixOf]
theorem sayF_fieldF (l : List UInt8) : sayF (fieldF l) = true := by
  by_cases h1 : l = []
  · subst h1; rfl
  by_cases h2 : l.head? = some 58
  · cases l with
    | nil => exact absurd rfl h1
    | cons b r =>
      obtain rfl : b = 58 := by simpa using h2
      rw [fieldF_comment]
      rfl
  · obtain ⟨e, hne⟩ := fieldF_else h1 h2
    rw [e]
    have hk := kindK_range (cutC l).1
    unfold sayF
    simp only
    rw [if_neg (by omega), if_neg (by omega)]
    exact decide_eq_true ⟨hne, (hasColon_iff _).2 (cutC_no l), trivial⟩
theorem head_ne {nm : List UInt8} (h : nm ≠ []) (hn : 58 ∉ nm) (t : List UInt8) : (nm ++ t).head? ≠ some 58 := by
  cases nm with
  | nil => exact absurd rfl h
  | cons b r =>
    simp only [List.mem_cons, not_or] at hn
    simp only [List.cons_append, List.head?_cons, ne_eq, Option.some.injEq]
    exact fun e => hn.1 e.symm
/-- What is said is said by its Line, too. -/
theorem fieldF_lineF (f : Int × List UInt8 × List UInt8) (h : sayF f = true) : fieldF (lineF f) = f := by
  obtain ⟨ki, nm, vl⟩ := f
  unfold sayF at h
  simp only at h
  by_cases k1 : ki = 1
  · subst k1
    rw [if_pos rfl] at h
    obtain ⟨rfl, rfl⟩ := of_decide_eq_true h
    rfl
  · rw [if_neg k1] at h
    by_cases k2 : ki = 2
    · subst k2
      rw [if_pos rfl] at h
      obtain rfl := of_decide_eq_true h
      show fieldF (58 :: vl) = _
      exact fieldF_comment vl
    · rw [if_neg k2] at h
      obtain ⟨hn, hc, hk⟩ := of_decide_eq_true h
      have hno := (hasColon_iff nm).1 hc
      have hb : betw (ki, nm, vl) = if vl = [] then [] else [58, 32] := by unfold betw; rw [if_neg k2]
      unfold lineF
      rw [hb]
      simp only
      by_cases hv : vl = []
      · subst hv
        rw [if_pos rfl, List.append_nil, List.append_nil]
        obtain ⟨e, _⟩ := fieldF_else hn (by have := head_ne hn hno []; rwa [List.append_nil] at this)
        rw [e, cutC_none nm hno, hk]
        rfl
      · rw [if_neg hv]
        have he : nm ++ [58, 32] ++ vl = nm ++ 58 :: 32 :: vl := by simp
        rw [he]
        obtain ⟨e, _⟩ := fieldF_else (l := nm ++ 58 :: 32 :: vl) (by simp) (head_ne hn hno _)
        rw [e, cutC_of nm _ hno, hk]
        simp [Lib.trimPrefix, Lib.hasPrefix, List.isPrefixOf]
theorem lineF_inj (a b : List UInt8) : (fieldF a = fieldF b) ↔ (lineF (fieldF a) = lineF (fieldF b)) :=
  ⟨fun h => by rw [h], fun h => by rw [← fieldF_lineF _ (sayF_fieldF a), h, fieldF_lineF _ (sayF_fieldF b)]⟩
end Go.Proofs.YtdkmajmmhngdpaaDoor
