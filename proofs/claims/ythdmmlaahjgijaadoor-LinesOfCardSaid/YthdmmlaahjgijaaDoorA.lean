import Derived.Test.YthdmmlaahjgijaaDoorProg
namespace Go.Proofs.YthdmmlaahjgijaaDoor

/-! ## Bytes as text: the mathematics -/
/-- In which row of lead bytes a byte stands (9: in none). -/
def kOf (c : Nat) : Nat := if c < 128 then 0 else if c < 194 then 9 else if c < 224 then 1 else if c = 224 then 2 else if c < 237 then 3 else if c = 237 then 4 else if c < 240 then 5 else if c = 240 then 6 else if c < 244 then 7 else if c = 244 then 8 else 9
def moreN (k : Nat) : Nat := if k = 0 then 0 else if k = 1 then 1 else if k < 6 then 2 else 3
def markN (k : Nat) : Nat := if k = 0 then 0 else if k = 1 then 192 else if k < 6 then 224 else 240
/-- The least and the most byte at a place behind a lead byte. -/
def loN (k j : Nat) : Nat := if j = 1 then (if k = 2 then 160 else if k = 6 then 144 else 128) else 128
def hiN (k j : Nat) : Nat := if j = 1 then (if k = 4 then 159 else if k = 8 then 143 else 191) else 191
def inR (k j b : Nat) : Prop := loN k j ≤ b ∧ b ≤ hiN k j
instance (k j b : Nat) : Decidable (inR k j b) := inferInstanceAs (Decidable (_ ∧ _))
theorem inR_cont {k j b : Nat} (h : inR k j b) : 128 ≤ b ∧ b ≤ 191 := by
  unfold inR loN hiN at h
  (repeat' split at h) <;> omega
theorem kOf_le (c : Nat) : kOf c ≤ 9 := by unfold kOf; (repeat' split) <;> omega
theorem moreN_le (k : Nat) : moreN k ≤ 3 := by unfold moreN; (repeat' split) <;> omega
/-- What stands at the beginning of bytes: which point, of how many, and how: 0 whole, 1 broken, 2 cut short. -/
structure Look where
  point : Nat
  size : Nat
  st : Nat
deriving DecidableEq
/-- On from place j, so many bytes being still to come. -/
def goOn (k : Nat) : Nat → Nat → Nat → List UInt8 → Look
  | 0, j, p, _ => ⟨p, j, 0⟩
  | _ + 1, j, _, [] => ⟨65533, j, 2⟩
  | left + 1, j, p, b :: r => if inR k j b.toNat then goOn k left (j + 1) (p * 64 + b.toNat % 64) r else ⟨65533, j, 1⟩
def look : List UInt8 → Look
  | [] => ⟨65533, 1, 1⟩
  | c :: r => if kOf c.toNat = 9 then ⟨65533, 1, 1⟩ else goOn (kOf c.toNat) (moreN (kOf c.toNat)) 1 (c.toNat - markN (kOf c.toNat)) r
def inst : List UInt8 := [239, 191, 189]
/-- The bytes that are told of them. -/
def told (l : List UInt8) : List UInt8 := if (look l).st = 0 then l.take (look l).size else inst

section
theorem goOn_size (k : Nat) : ∀ (left j p : Nat) (r : List UInt8), j ≤ (goOn k left j p r).size ∧ (goOn k left j p r).size ≤ j + left ∧ (goOn k left j p r).size ≤ j + r.length ∧ (goOn k left j p r).st ≤ 2
  | 0, j, p, r => by simp [goOn]
  | left + 1, j, p, [] => by simp [goOn]
  | left + 1, j, p, b :: r => by
    unfold goOn
    split
    · have := goOn_size k left (j + 1) (p * 64 + b.toNat % 64) r
      simp only [List.length_cons]; omega
    · simp
/-- How a reading ends. -/
theorem goOn_end (k : Nat) : ∀ (left j p : Nat) (r : List UInt8) (x : Look), goOn k left j p r = x →
    (∀ i (h : i < r.length), j + i < x.size → inR k (j + i) r[i].toNat) ∧ (x.st = 0 → x.size = j + left) ∧
    (x.st = 1 → x.point = 65533 ∧ x.size < j + left ∧ ∃ h : x.size - j < r.length, ¬ inR k x.size r[x.size - j].toNat) ∧ (x.st = 2 → x.point = 65533 ∧ x.size < j + left ∧ x.size = j + r.length)
  | 0, j, p, r, x, e => by
    simp only [goOn] at e
    subst e
    refine ⟨fun i hi h => ?_, fun _ => rfl, fun h => by simp at h, fun h => by simp at h⟩
    have h' : j + i < j := h
    omega
  | left + 1, j, p, [], x, e => by
    simp only [goOn] at e
    subst e
    refine ⟨fun i hi h => by simp at hi, fun h => by simp at h, fun h => by simp at h, fun _ => ⟨rfl, by simp, by simp⟩⟩
  | left + 1, j, p, b :: r, x, e => by
    simp only [goOn] at e
    split at e
    · rename_i hb
      have hs := goOn_size k left (j + 1) (p * 64 + b.toNat % 64) r
      rw [e] at hs
      obtain ⟨h1, h2, h3, h4⟩ := goOn_end k left (j + 1) (p * 64 + b.toNat % 64) r x e
      clear e
      refine ⟨fun i hi hx => ?_, fun h => by have := h2 h; omega, fun h => ?_, fun h => ?_⟩
      · cases i with
        | zero => simpa using hb
        | succ i => have := h1 i (by simpa using hi) (by omega); rw [show j + (i + 1) = j + 1 + i from by omega]; simpa using this
      · obtain ⟨a, b', c, d⟩ := h3 h
        refine ⟨a, by omega, by simp only [List.length_cons]; omega, ?_⟩
        have e : x.size - j = (x.size - (j + 1)) + 1 := by omega
        simp only [e, List.getElem_cons_succ]
        exact d
      · obtain ⟨a, b', c⟩ := h4 h
        exact ⟨a, by omega, by simp only [List.length_cons]; omega⟩
    · rename_i hb
      subst e
      refine ⟨fun i hi hx => ?_, fun h => by simp at h, fun _ => ⟨rfl, by simp, by simp, ?_⟩, fun h => by simp at h⟩
      · have hx' : j + i < j := hx
        omega
      · simpa using hb
theorem look_size {l : List UInt8} (h : l ≠ []) : 1 ≤ (look l).size ∧ (look l).size ≤ 4 ∧ (look l).size ≤ l.length ∧ (look l).st ≤ 2 := by
  cases l with
  | nil => exact absurd rfl h
  | cons c r =>
    simp only [look]
    split
    · simp
    · have := goOn_size (kOf c.toNat) (moreN (kOf c.toNat)) 1 (c.toNat - markN (kOf c.toNat)) r
      have := moreN_le (kOf c.toNat)
      simp only [List.length_cons]; omega
/-- Cut short: all that is left, three bytes at most. -/
theorem look_short {l : List UInt8} (h : (look l).st = 2) : (look l).size = l.length ∧ l.length ≤ 3 ∧ l ≠ [] := by
  cases l with
  | nil => simp [look] at h
  | cons c r =>
    simp only [look] at h ⊢
    split at h
    · simp at h
    · rename_i hk
      rw [if_neg hk]
      have := (goOn_end (kOf c.toNat) (moreN (kOf c.toNat)) 1 (c.toNat - markN (kOf c.toNat)) r _ rfl).2.2.2 h
      have := moreN_le (kOf c.toNat)
      simp only [List.length_cons]
      exact ⟨by omega, by omega, by simp⟩
/-- More bytes behind turn nothing where it is not cut short. -/
theorem goOn_append (k : Nat) (y : List UInt8) : ∀ (left j p : Nat) (r : List UInt8), (goOn k left j p r).st ≠ 2 → goOn k left j p (r ++ y) = goOn k left j p r
  | 0, j, p, r => by simp [goOn]
  | left + 1, j, p, [] => by simp [goOn]
  | left + 1, j, p, b :: r => by
    simp only [goOn, List.cons_append]
    split
    · exact goOn_append k y left _ _ r
    · simp
theorem look_append {l : List UInt8} (y : List UInt8) (h0 : l ≠ []) (h : (look l).st ≠ 2) : look (l ++ y) = look l := by
  cases l with
  | nil => exact absurd rfl h0
  | cons c r =>
    simp only [look, List.cons_append] at h ⊢
    split
    · rfl
    · rename_i hk
      rw [if_neg hk] at h
      exact goOn_append _ y _ _ _ r h
/-- Of what is whole no byte behind is read. -/
theorem goOn_whole (k : Nat) : ∀ (left j p : Nat) (r : List UInt8), (goOn k left j p r).st = 0 → goOn k left j p (r.take left) = goOn k left j p r
  | 0, j, p, r => by simp [goOn]
  | left + 1, j, p, [] => by simp [goOn]
  | left + 1, j, p, b :: r => by
    simp only [goOn, List.take_succ_cons]
    split
    · exact goOn_whole k left _ _ r
    · simp
theorem look_whole {l : List UInt8} (h : (look l).st = 0) : look (l.take (look l).size) = look l ∧ (l.take (look l).size).length = (look l).size := by
  cases l with
  | nil => simp [look] at h
  | cons c r =>
    have hs := (look_size (l := c :: r) (by simp)).2.2
    refine ⟨?_, by rw [List.length_take]; omega⟩
    simp only [look] at h hs ⊢
    split at h
    · simp at h
    · rename_i hk
      rw [if_neg hk]
      have he := (goOn_end (kOf c.toNat) (moreN (kOf c.toNat)) 1 (c.toNat - markN (kOf c.toNat)) r _ rfl).2.1 h
      rw [he, Nat.add_comm 1, List.take_succ_cons]
      show (if kOf c.toNat = 9 then _ else _) = _
      rw [if_neg hk]
      exact goOn_whole _ _ _ _ r h
theorem look_inst (y : List UInt8) : look (inst ++ y) = ⟨65533, 3, 0⟩ := by
  simp only [inst, List.cons_append, List.nil_append]
  rw [look, if_neg (by decide)]
  show goOn 5 (0 + 1 + 1) 1 15 (191 :: 189 :: y) = _
  rw [goOn, if_pos (by decide), goOn, if_pos (by decide), goOn]
  rfl
theorem told_size {l : List UInt8} (y : List UInt8) (h : l ≠ []) : look (told l ++ y) = ⟨(look (told l ++ y)).point, (told l).length, 0⟩ := by
  unfold told
  split
  · rename_i h0
    obtain ⟨h1, h2⟩ := look_whole h0
    have hne : l.take (look l).size ≠ [] := by
      intro e; have := congrArg List.length e; rw [h2] at this; have := (look_size h).1; simp at *; omega
    have h3 := look_append (l := l.take (look l).size) y hne (by rw [h1, h0]; decide)
    rw [h3, h1, h2]
    exact congrArg (Look.mk _ _) h0
  · rw [look_inst]; rfl
end

/-! ## Made sound -/
def ofF : Nat → List UInt8 → List UInt8
  | 0, _ => []
  | _ + 1, [] => []
  | f + 1, c :: r => told (c :: r) ++ ofF f ((c :: r).drop (look (c :: r)).size)
def ofB (l : List UInt8) : List UInt8 := ofF l.length l
theorem ofF_more : ∀ (f : Nat) (l : List UInt8), l.length ≤ f → ofF f l = ofB l := by
  have key : ∀ (n f g : Nat) (l : List UInt8), l.length ≤ n → l.length ≤ f → l.length ≤ g → ofF f l = ofF g l := by
    intro n
    induction n with
    | zero =>
      intro f g l hn hf hg
      obtain rfl : l = [] := List.eq_nil_of_length_eq_zero (by omega)
      cases f <;> cases g <;> rfl
    | succ n ih =>
      intro f g l hn hf hg
      cases l with
      | nil => cases f <;> cases g <;> rfl
      | cons c r =>
        simp only [List.length_cons] at hn hf hg
        obtain ⟨f, rfl⟩ : ∃ f', f = f' + 1 := ⟨f - 1, by omega⟩
        obtain ⟨g, rfl⟩ : ∃ g', g = g' + 1 := ⟨g - 1, by omega⟩
        have hs := look_size (l := c :: r) (by simp)
        have hd : ((c :: r).drop (look (c :: r)).size).length ≤ r.length := by rw [List.length_drop, List.length_cons]; omega
        rw [ofF, ofF, ih f g _ (by omega) (by omega) (by omega)]
  exact fun f l h => key l.length f l.length l (Nat.le_refl _) h (Nat.le_refl _)
theorem ofB_nil : ofB [] = [] := rfl
theorem ofB_step {l : List UInt8} (h : l ≠ []) : ofB l = told l ++ ofB (l.drop (look l).size) := by
  cases l with
  | nil => exact absurd rfl h
  | cons c r =>
    have hs := look_size (l := c :: r) (by simp)
    rw [ofB, List.length_cons, ofF, ofF_more r.length _ (by rw [List.length_drop, List.length_cons]; omega)]
/-- Induction along what is told. -/
theorem along {P : List UInt8 → Prop} (h0 : P []) (h1 : ∀ l, l ≠ [] → P (l.drop (look l).size) → P l) (l : List UInt8) : P l := by
  have key : ∀ (n : Nat) (l : List UInt8), l.length ≤ n → P l := by
    intro n
    induction n with
    | zero =>
      intro l hl
      obtain rfl : l = [] := List.eq_nil_of_length_eq_zero (by omega)
      exact h0
    | succ n ih =>
      intro l hl
      by_cases h : l = []
      · rw [h]; exact h0
      · have hs := look_size h
        exact h1 l h (ih (l.drop (look l).size) (by rw [List.length_drop]; omega))
  exact key l.length l (Nat.le_refl _)
theorem told_self {l : List UInt8} (h : (look l).st = 0) : told l ++ l.drop (look l).size = l := by rw [told, if_pos h, List.take_append_drop]
/-- Sound: as it is told. -/
def SoundL (l : List UInt8) : Prop := ofB l = l
theorem sound_nil : SoundL [] := rfl
theorem sound_look {l : List UInt8} (h0 : l ≠ []) : SoundL l ↔ (look l).st = 0 ∧ SoundL (l.drop (look l).size) := by
  unfold SoundL
  constructor
  · intro h
    have hst : (look l).st = 0 := by
      refine Decidable.byContradiction fun hn => ?_
      have e := ofB_step h0
      rw [h, told, if_neg hn] at e
      have := look_inst (ofB (l.drop (look l).size))
      rw [← e] at this
      exact hn (by rw [this])
    refine ⟨hst, ?_⟩
    have e := ofB_step h0
    rw [h] at e
    have e2 := told_self hst
    exact List.append_cancel_left (e.symm.trans e2.symm)
  · rintro ⟨h1, h2⟩
    rw [ofB_step h0, h2, told_self h1]
theorem told_ne {l : List UInt8} (h : l ≠ []) : told l ≠ [] := by
  intro e
  have hs := look_size h
  unfold told at e
  split at e
  · have := congrArg List.length e
    rw [List.length_take, List.length_nil] at this
    omega
  · simp [inst] at e
theorem sound_of (l : List UInt8) : SoundL (ofB l) := by
  refine along (P := fun l => SoundL (ofB l)) rfl (fun l h ih => ?_) l
  have e := told_size (ofB (l.drop (look l).size)) h
  rw [ofB_step h]
  have hne : told l ++ ofB (l.drop (look l).size) ≠ [] := fun e => told_ne h (List.append_eq_nil_iff.1 e).1
  rw [sound_look hne, e]
  refine ⟨rfl, ?_⟩
  simp only
  rw [List.drop_left]
  exact ih
theorem of_of (l : List UInt8) : ofB (ofB l) = ofB l := sound_of l

/-! ## Piece by piece -/
/-- What is told of bytes, and which ones wait. -/
def runF : Nat → List UInt8 → List UInt8 × List UInt8
  | 0, l => ([], l)
  | _ + 1, [] => ([], [])
  | f + 1, c :: r => if (look (c :: r)).st = 2 then ([], c :: r) else (told (c :: r) ++ (runF f ((c :: r).drop (look (c :: r)).size)).1, (runF f ((c :: r).drop (look (c :: r)).size)).2)
def run4 (l : List UInt8) : List UInt8 × List UInt8 := runF l.length l
theorem runF_more : ∀ (f : Nat) (l : List UInt8), l.length ≤ f → runF f l = run4 l := by
  have key : ∀ (n f g : Nat) (l : List UInt8), l.length ≤ n → l.length ≤ f → l.length ≤ g → runF f l = runF g l := by
    intro n
    induction n with
    | zero =>
      intro f g l hn hf hg
      obtain rfl : l = [] := List.eq_nil_of_length_eq_zero (by omega)
      cases f <;> cases g <;> rfl
    | succ n ih =>
      intro f g l hn hf hg
      cases l with
      | nil => cases f <;> cases g <;> rfl
      | cons c r =>
        simp only [List.length_cons] at hn hf hg
        obtain ⟨f, rfl⟩ : ∃ f', f = f' + 1 := ⟨f - 1, by omega⟩
        obtain ⟨g, rfl⟩ : ∃ g', g = g' + 1 := ⟨g - 1, by omega⟩
        have hs := look_size (l := c :: r) (by simp)
        have hd : ((c :: r).drop (look (c :: r)).size).length ≤ r.length := by rw [List.length_drop, List.length_cons]; omega
        rw [runF, runF, ih f g _ (by omega) (by omega) (by omega)]
  exact fun f l h => key l.length f l.length l (Nat.le_refl _) h (Nat.le_refl _)
theorem run4_nil : run4 [] = ([], []) := rfl
theorem run4_short {l : List UInt8} (h : (look l).st = 2) : run4 l = ([], l) := by
  cases l with
  | nil => rfl
  | cons c r => rw [run4, List.length_cons, runF, if_pos h]
theorem run4_step {l : List UInt8} (h0 : l ≠ []) (h : (look l).st ≠ 2) : run4 l = (told l ++ (run4 (l.drop (look l).size)).1, (run4 (l.drop (look l).size)).2) := by
  cases l with
  | nil => exact absurd rfl h0
  | cons c r =>
    have hs := look_size (l := c :: r) (by simp)
    rw [run4, List.length_cons, runF, if_neg h, runF_more r.length _ (by rw [List.length_drop, List.length_cons]; omega)]
theorem run4_append (y l : List UInt8) : run4 (l ++ y) = ((run4 l).1 ++ (run4 ((run4 l).2 ++ y)).1, (run4 ((run4 l).2 ++ y)).2) := by
  refine along (P := fun l => run4 (l ++ y) = ((run4 l).1 ++ (run4 ((run4 l).2 ++ y)).1, (run4 ((run4 l).2 ++ y)).2)) (by simp [run4_nil]) (fun l h ih => ?_) l
  by_cases h2 : (look l).st = 2
  · rw [run4_short h2]; simp
  · have ha := look_append y h h2
    have hs := look_size h
    have ht : told (l ++ y) = told l := by unfold told; rw [ha, List.take_append_of_le_length hs.2.2.1]
    rw [run4_step (l := l ++ y) (by simp [h]) (by rw [ha]; exact h2), ha, ht, List.drop_append_of_le_length hs.2.2.1, ih, run4_step h h2]
    simp
theorem of_run (l : List UInt8) : ofB l = (run4 l).1 ++ (if (run4 l).2 = [] then [] else inst) := by
  refine along (P := fun l => ofB l = (run4 l).1 ++ (if (run4 l).2 = [] then [] else inst)) rfl (fun l h ih => ?_) l
  by_cases h2 : (look l).st = 2
  · rw [run4_short h2, ofB_step h, if_neg h, (look_short h2).1, List.drop_length, told, if_neg (by rw [h2]; decide), ofB_nil]
    simp
  · rw [run4_step h h2, ofB_step h, ih]
    simp
theorem run_wait (l : List UInt8) : (run4 l).2 = [] ∨ (look (run4 l).2).st = 2 := by
  refine along (P := fun l => (run4 l).2 = [] ∨ (look (run4 l).2).st = 2) (.inl rfl) (fun l h ih => ?_) l
  by_cases h2 : (look l).st = 2
  · rw [run4_short h2]; exact .inr h2
  · rw [run4_step h h2]; exact ih
theorem run_three (l : List UInt8) : (run4 l).2.length ≤ 3 := by
  rcases run_wait l with h | h
  · rw [h]; simp
  · exact (look_short h).2.1

/-! ## Places -/
def lookAt (l : List UInt8) (p : Nat) : Look := look (l.drop p)
def toldAt (l : List UInt8) (p : Nat) : List UInt8 := told (l.drop p)
def placesF (l : List UInt8) : Nat → Nat → List Nat
  | 0, _ => []
  | f + 1, p => if p < l.length then p :: placesF l f (p + (lookAt l p).size) else []
def placesFrom (l : List UInt8) (p : Nat) : List Nat := placesF l (l.length - p) p
theorem drop_ne {l : List UInt8} {p : Nat} (h : p < l.length) : l.drop p ≠ [] := by
  intro e; have := congrArg List.length e; rw [List.length_drop] at this; simp at this; omega
theorem placesF_more (l : List UInt8) : ∀ (f g p : Nat), l.length - p ≤ f → l.length - p ≤ g → placesF l f p = placesF l g p
  | 0, g, p, hf, hg => by
    cases g with
    | zero => rfl
    | succ g => simp only [placesF]; rw [if_neg (by omega)]
  | f + 1, 0, p, hf, hg => by simp only [placesF]; rw [if_neg (by omega)]
  | f + 1, g + 1, p, hf, hg => by
    simp only [placesF]
    split
    · rename_i h
      have hs := (look_size (drop_ne h)).1
      have hs : 1 ≤ (lookAt l p).size := hs
      rw [placesF_more l f g _ (by omega) (by omega)]
    · rfl
theorem places_end {l : List UInt8} {p : Nat} (h : l.length ≤ p) : placesFrom l p = [] := by unfold placesFrom; rw [show l.length - p = 0 from by omega]; rfl
theorem places_step {l : List UInt8} {p : Nat} (h : p < l.length) : placesFrom l p = p :: placesFrom l (p + (lookAt l p).size) := by
  have hs : 1 ≤ (lookAt l p).size := (look_size (drop_ne h)).1
  unfold placesFrom
  obtain ⟨f, hf⟩ : ∃ f, l.length - p = f + 1 := ⟨l.length - p - 1, by omega⟩
  rw [hf, placesF, if_pos h, placesF_more l f (l.length - (p + (lookAt l p).size)) _ (by omega) (by omega)]
def conc (l : List UInt8) (ps : List Nat) : List UInt8 := ps.flatMap (toldAt l)
theorem conc_snoc (l : List UInt8) (ps : List Nat) (p : Nat) : conc l (ps ++ [p]) = conc l ps ++ toldAt l p := by simp [conc]
theorem drop_look (l : List UInt8) (p : Nat) : (l.drop p).drop (lookAt l p).size = l.drop (p + (lookAt l p).size) := by rw [List.drop_drop]
theorem lookAt_le {l : List UInt8} {p : Nat} (h : p < l.length) : p + (lookAt l p).size ≤ l.length ∧ 1 ≤ (lookAt l p).size := by
  have := look_size (drop_ne h)
  rw [List.length_drop] at this
  unfold lookAt
  omega
theorem conc_of (l : List UInt8) : ∀ (n p : Nat), l.length - p ≤ n → conc l (placesFrom l p) = ofB (l.drop p) := by
  intro n
  induction n with
  | zero => intro p hp; rw [places_end (by omega), List.drop_of_length_le (by omega)]; rfl
  | succ n ih =>
    intro p hp
    by_cases h : p < l.length
    · have hl := lookAt_le h
      rw [places_step h, ofB_step (drop_ne h)]
      show toldAt l p ++ conc l (placesFrom l (p + (lookAt l p).size)) = told (l.drop p) ++ ofB ((l.drop p).drop (lookAt l p).size)
      rw [ih _ (by omega), drop_look]; rfl
    · rw [places_end (by omega), List.drop_of_length_le (by omega)]; rfl
theorem conc_places (l : List UInt8) : conc l (placesFrom l 0) = ofB l := by have := conc_of l l.length 0 (by omega); simpa using this
theorem sound_places (l : List UInt8) : SoundL l ↔ ∀ p ∈ placesFrom l 0, (lookAt l p).st = 0 := by
  have key : ∀ (n p : Nat), l.length - p ≤ n → (SoundL (l.drop p) ↔ ∀ q ∈ placesFrom l p, (lookAt l q).st = 0) := by
    intro n
    induction n with
    | zero => intro p hp; rw [places_end (by omega), List.drop_of_length_le (by omega)]; simp [SoundL, ofB_nil]
    | succ n ih =>
      intro p hp
      by_cases h : p < l.length
      · have hl := lookAt_le h
        rw [places_step h, sound_look (drop_ne h)]
        have e : (l.drop p).drop (look (l.drop p)).size = l.drop (p + (lookAt l p).size) := drop_look l p
        rw [e, ih _ (by omega)]
        simp [lookAt]
      · rw [places_end (by omega), List.drop_of_length_le (by omega)]; simp [SoundL, ofB_nil]
  have := key l.length 0 (by omega)
  simpa using this
theorem run_places_all (l : List UInt8) : ∀ (n p : Nat), l.length - p ≤ n → (∀ q ∈ placesFrom l p, (lookAt l q).st ≠ 2) → run4 (l.drop p) = (conc l (placesFrom l p), []) := by
  intro n
  induction n with
  | zero => intro p hp _; rw [places_end (by omega), List.drop_of_length_le (by omega)]; rfl
  | succ n ih =>
    intro p hp hq
    by_cases h : p < l.length
    · have hl := lookAt_le h
      rw [places_step h] at hq ⊢
      rw [run4_step (drop_ne h) (hq p (by simp))]
      have e : (l.drop p).drop (look (l.drop p)).size = l.drop (p + (lookAt l p).size) := drop_look l p
      rw [e, ih _ (by omega) (fun q hq' => hq q (by simp [hq']))]
      rfl
    · rw [places_end (by omega), List.drop_of_length_le (by omega)]; rfl
theorem run_places_cut (l : List UInt8) : ∀ (pre : List Nat) (p x : Nat) (rest : List Nat), placesFrom l p = pre ++ x :: rest → (∀ q ∈ pre, (lookAt l q).st ≠ 2) → (lookAt l x).st = 2 → run4 (l.drop p) = (conc l pre, l.drop x) := by
  intro pre
  induction pre with
  | nil =>
    intro p x rest he _ hx
    by_cases h : p < l.length
    · rw [places_step h] at he
      injection he with he _
      subst he
      exact run4_short hx
    · rw [places_end (by omega)] at he; cases he
  | cons q pre ih =>
    intro p x rest he hq hx
    by_cases h : p < l.length
    · rw [places_step h] at he
      injection he with he he2
      subst he
      rw [run4_step (drop_ne h) (hq p (by simp))]
      have e : (l.drop p).drop (look (l.drop p)).size = l.drop (p + (lookAt l p).size) := drop_look l p
      rw [e, ih _ x rest he2 (fun q hq' => hq q (by simp [hq'])) hx]
      rfl
    · rw [places_end (by omega)] at he; cases he
end Go.Proofs.YthdmmlaahjgijaaDoor
