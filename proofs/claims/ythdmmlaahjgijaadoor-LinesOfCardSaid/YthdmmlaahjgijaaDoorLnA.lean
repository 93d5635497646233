import Derived.Test.YthdmmlaahjgijaaDoorAb
namespace Go.Proofs.YthdmmlaahjgijaaDoor

/-! ## Lines of a text: mathematics -/
/-- What came of a line whose end has not come, whether it is too long, and whether a CR came last. -/
structure LSt where
  bytes : List UInt8
  long : Bool
  half : Bool
/-- Bytes that are put to a line under way. -/
def addB (most : Nat) (u : List UInt8) (long : Bool) (b : List UInt8) : List UInt8 × Bool :=
  if long = true ∨ most < u.length + b.length then ([], true) else (u ++ b, false)
/-- One byte comes. -/
def stepL (most : Nat) (s : LSt) (c : UInt8) : List (List UInt8 × Bool) × LSt :=
  if s.half = true ∧ c = 10 then ([], ⟨s.bytes, s.long, false⟩)
  else if c = 13 ∨ c = 10 then ([(s.bytes, s.long)], ⟨[], false, decide (c = 13)⟩)
  else ([], ⟨(addB most s.bytes s.long [c]).1, (addB most s.bytes s.long [c]).2, false⟩)
/-- A text comes: the lines that end with it, and how it stands. -/
def runL (most : Nat) : LSt → List UInt8 → List (List UInt8 × Bool) × LSt
  | s, [] => ([], s)
  | s, c :: r => ((stepL most s c).1 ++ (runL most (stepL most s c).2 r).1, (runL most (stepL most s c).2 r).2)
theorem runL_append (most : Nat) : ∀ (a b : List UInt8) (s : LSt), runL most s (a ++ b) = ((runL most s a).1 ++ (runL most (runL most s a).2 b).1, (runL most (runL most s a).2 b).2)
  | [], b, s => by simp [runL]
  | c :: r, b, s => by
    have ih := runL_append most r b (stepL most s c).2
    simp only [List.cons_append, runL, ih, List.append_assoc]
/-- What holds of every state. -/
def LSt.ok (most : Nat) (s : LSt) : Prop := s.bytes.length ≤ most ∧ (s.long = true → s.bytes = [])
theorem addB_ok {most : Nat} {u : List UInt8} {long : Bool} {b : List UInt8} : (addB most u long b).1.length ≤ most ∧ ((addB most u long b).2 = true → (addB most u long b).1 = []) := by
  unfold addB
  split
  · exact ⟨Nat.zero_le _, fun _ => rfl⟩
  · rename_i h
    refine ⟨?_, fun h => by simp at h⟩
    rw [List.length_append]
    omega
theorem stepL_ok {most : Nat} {s : LSt} (h : s.ok most) (c : UInt8) : (stepL most s c).2.ok most := by
  unfold stepL
  split
  · exact h
  · split
    · exact ⟨Nat.zero_le _, fun _ => rfl⟩
    · exact addB_ok
theorem runL_ok {most : Nat} : ∀ (a : List UInt8) (s : LSt), s.ok most → (runL most s a).2.ok most
  | [], _, h => h
  | _ :: r, _, h => runL_ok r _ (stepL_ok h _)
theorem addB_nil {most : Nat} {s : LSt} (h : s.ok most) : addB most s.bytes s.long [] = (s.bytes, s.long) := by
  unfold addB
  obtain ⟨h1, h2⟩ := h
  cases hl : s.long with
  | true => rw [if_pos (.inl rfl), h2 hl]
  | false => rw [if_neg (by simp; exact h1), List.append_nil]
theorem addB_add {most : Nat} {u : List UInt8} {long : Bool} (a b : List UInt8) : addB most (addB most u long a).1 (addB most u long a).2 b = addB most u long (a ++ b) := by
  unfold addB
  by_cases h : long = true ∨ most < u.length + a.length
  · rw [if_pos h, if_pos (.inl rfl), if_pos]
    rcases h with h | h
    · exact .inl h
    · right; rw [List.length_append]; omega
  · rw [if_neg h]
    by_cases h2 : most < u.length + (a ++ b).length
    · rw [if_pos (.inr (by rw [List.length_append] at h2 ⊢; omega)), if_pos (.inr h2)]
    · rw [if_neg, if_neg]
      · rw [List.append_assoc]
      · intro h3
        rcases h3 with h3 | h3
        · exact h (.inl h3)
        · exact h2 h3
      · intro h3
        rcases h3 with h3 | h3
        · simp at h3
        · rw [List.length_append] at h2 h3; omega
/-- No byte of these ends a line. -/
def noEnd (b : List UInt8) : Prop := ∀ c ∈ b, c ≠ 13 ∧ c ≠ 10
theorem runL_plain {most : Nat} : ∀ (b : List UInt8) (s : LSt), s.ok most → noEnd b → b ≠ [] → runL most s b = ([], ⟨(addB most s.bytes s.long b).1, (addB most s.bytes s.long b).2, false⟩)
  | [], _, _, _, h0 => absurd rfl h0
  | c :: r, s, h, hb, _ => by
    obtain ⟨h13, h10⟩ := hb c List.mem_cons_self
    have hs : stepL most s c = ([], ⟨(addB most s.bytes s.long [c]).1, (addB most s.bytes s.long [c]).2, false⟩) := by
      unfold stepL
      rw [if_neg (fun h => h10 h.2), if_neg (fun h => h.elim h13 h10)]
    simp only [runL, hs, List.nil_append]
    by_cases hr : r = []
    · subst hr; simp [runL]
    · have ih := runL_plain r ⟨(addB most s.bytes s.long [c]).1, (addB most s.bytes s.long [c]).2, false⟩ addB_ok (fun d hd => hb d (List.mem_cons_of_mem _ hd)) hr
      rw [ih]
      simp only [addB_add, List.singleton_append]
/-- What Splitter.next does with a text that is not empty: no more comes than up to a line's end. -/
def skipLF (s : LSt) (t : List UInt8) : List UInt8 := if s.half = true ∧ t.head? = some 10 then t.drop 1 else t
def firstEnd (t : List UInt8) : Nat := t.findIdx fun c => c == 13 || c == 10
theorem firstEnd_le (t : List UInt8) : firstEnd t ≤ t.length := List.findIdx_le_length
theorem firstEnd_plain (t : List UInt8) : noEnd (t.take (firstEnd t)) := by
  intro c hc
  obtain ⟨i, hi, he⟩ := List.getElem_of_mem hc
  rw [List.length_take] at hi
  rw [List.getElem_take] at he
  have := List.not_of_lt_findIdx (p := fun c : UInt8 => c == 13 || c == 10) (xs := t) (i := i) (by unfold firstEnd at hi; omega)
  rw [he] at this
  simp at this
  exact this
theorem runL_skip {most : Nat} (s : LSt) (t : List UInt8) (h0 : t ≠ []) : runL most s t = runL most ⟨s.bytes, s.long, false⟩ (skipLF s t) := by
  cases t with
  | nil => exact absurd rfl h0
  | cons c r =>
    unfold skipLF
    by_cases h : s.half = true ∧ c = 10
    · rw [if_pos (by simpa using h)]
      simp [runL, stepL, h]
    · rw [if_neg (by simpa using h)]
      simp only [runL]
      have : stepL most s c = stepL most ⟨s.bytes, s.long, false⟩ c := by
        have e2 : ¬ ((⟨s.bytes, s.long, false⟩ : LSt).half = true ∧ c = 10) := by simp
        unfold stepL
        rw [if_neg h, if_neg e2]
      rw [this]
theorem runL_next_end {most : Nat} (s : LSt) (h : s.ok most) (t : List UInt8) (h0 : t ≠ []) (he : firstEnd (skipLF s t) = (skipLF s t).length) :
    runL most s t = ([], ⟨(addB most s.bytes s.long (skipLF s t)).1, (addB most s.bytes s.long (skipLF s t)).2, false⟩) := by
  rw [runL_skip s t h0]
  have hp := firstEnd_plain (skipLF s t)
  rw [he, List.take_length] at hp
  by_cases hn : skipLF s t = []
  · rw [hn, addB_nil h]; rfl
  · exact runL_plain _ _ h hp hn
theorem runL_next_line {most : Nat} (s : LSt) (h : s.ok most) (t : List UInt8) (h0 : t ≠ []) (e : Nat) (he : firstEnd (skipLF s t) = e) (hl : e < (skipLF s t).length) :
    runL most s t = ((addB most s.bytes s.long ((skipLF s t).take e)) :: (runL most ⟨[], false, decide ((skipLF s t)[e] = 13)⟩ ((skipLF s t).drop (e + 1))).1, (runL most ⟨[], false, decide ((skipLF s t)[e] = 13)⟩ ((skipLF s t).drop (e + 1))).2) := by
  rw [runL_skip s t h0]
  generalize skipLF s t = t' at he hl ⊢
  have hp := firstEnd_plain t'
  rw [he] at hp
  have hc : t'[e] = 13 ∨ t'[e] = 10 := by
    have := List.findIdx_getElem (p := fun c : UInt8 => c == 13 || c == 10) (xs := t') (w := by unfold firstEnd at he; omega)
    unfold firstEnd at he
    simp only [he] at this
    simpa using this
  have hd : t' = t'.take e ++ (t'[e] :: t'.drop (e + 1)) := by rw [← List.drop_eq_getElem_cons hl, List.take_append_drop]
  have hplain : runL most ⟨s.bytes, s.long, false⟩ (t'.take e) = ([], ⟨(addB most s.bytes s.long (t'.take e)).1, (addB most s.bytes s.long (t'.take e)).2, false⟩) := by
    by_cases hn : t'.take e = []
    · rw [hn, addB_nil h]; rfl
    · exact runL_plain _ ⟨s.bytes, s.long, false⟩ h hp hn
  have hst : stepL most ⟨(addB most s.bytes s.long (t'.take e)).1, (addB most s.bytes s.long (t'.take e)).2, false⟩ t'[e] = ([addB most s.bytes s.long (t'.take e)], ⟨[], false, decide (t'[e] = 13)⟩) := by
    unfold stepL
    rw [if_neg (by simp), if_pos hc]
  conv => lhs; rw [hd]
  rw [runL_append, hplain]
  simp only [runL, hst, List.nil_append, List.singleton_append]
end Go.Proofs.YthdmmlaahjgijaaDoor
