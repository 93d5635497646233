import Derived.Test.YtabgpnieekcdhaaDoorRrA
import Derived.Test.YtabgpnieekcdhaaDoorF
namespace Go.Proofs.YtabgpnieekcdhaaDoor

/-! ## Answers: mathematics -/
namespace An
/-- A number's digits. -/
noncomputable def dec (x : Nat) : List UInt8 := open Classical in if h : ∃ K, IsLen 10 x K then txt 10 x h.choose else []
theorem dec_of {x K : Nat} (h : IsLen 10 x K) : dec x = txt 10 x K := by
  unfold dec
  rw [dif_pos ⟨K, h⟩, isLen_one (by omega) (Exists.choose_spec (⟨K, h⟩ : ∃ K, IsLen 10 x K)) h]
theorem sgn_ten {d : Nat} (h : d < 10) : 48 ≤ (sgn d).toNat ∧ (sgn d).toNat ≤ 57 := by
  have : ∀ d : Fin 10, 48 ≤ (sgn d.1).toNat ∧ (sgn d.1).toNat ≤ 57 := by decide
  exact this ⟨d, h⟩
theorem dec_bytes {x : Nat} : ∀ b ∈ dec x, 48 ≤ b.toNat ∧ b.toNat ≤ 57 := by
  intro b hb
  unfold dec at hb
  split at hb
  · rename_i h
    unfold txt at hb
    rw [List.mem_reverse] at hb
    unfold upto at hb
    obtain ⟨k, _, rfl⟩ := List.mem_map.1 hb
    exact sgn_ten (Nat.mod_lt _ (by omega))
  · cases hb
theorem dec_len {x : Nat} (hx : x < 18446744073709551616) : (dec x).length ≤ 20 := by
  unfold dec
  split
  · rename_i h
    rw [txt_length]
    exact (isLen_le (.inl rfl) hx h.choose_spec).2
  · simp
theorem dec_val {x : Nat} : (dec x).all valB = true := List.all_eq_true.2 fun b hb => by
  have := dec_bytes b hb
  exact Rr.valB_of ⟨by omega, by omega⟩
theorem dec_blk {x : Nat} : ∀ b ∈ dec x, blkB b = false := fun b hb => by
  have h := dec_bytes b hb
  have h9 : b ≠ 9 := fun e => by subst e; simp at h
  have h32 : b ≠ 32 := fun e => by subst e; simp at h
  simp [blkB, h9, h32]
theorem dropL_id {s : List UInt8} (h : ∀ b ∈ s, blkB b = false) : dropL s = s := by
  cases s with
  | nil => rfl
  | cons b r => exact dropL_no r (h b List.mem_cons_self)
theorem dropR_id {s : List UInt8} (h : ∀ b ∈ s, blkB b = false) : dropR s = s := by
  rcases List.eq_nil_or_concat s with rfl | ⟨x, b, rfl⟩
  · rfl
  · rw [List.concat_eq_append] at h ⊢
    exact dropR_no x (h b (by simp))
theorem trimL_id {s : List UInt8} (h : ∀ b ∈ s, blkB b = false) : trimL s = s := by
  unfold trimL
  rw [dropL_id h, dropR_id h]
theorem dec_value {x : Nat} : valueL (dec x) = true := by
  unfold valueL
  rw [dec_val, trimL_id dec_blk]
  simp
/-! ### Names -/
def httpL : List UInt8 := [72, 84, 84, 80, 47, 49, 46, 49]
def ctypeL : List UInt8 := [99, 111, 110, 116, 101, 110, 116, 45, 116, 121, 112, 101]
def plainT : List UInt8 := [116, 101, 120, 116, 47, 112, 108, 97, 105, 110]
def streamT : List UInt8 := [116, 101, 120, 116, 47, 101, 118, 101, 110, 116, 45, 115, 116, 114, 101, 97, 109]
def clenL : List UInt8 := [99, 111, 110, 116, 101, 110, 116, 45, 108, 101, 110, 103, 116, 104]
def cacheL : List UInt8 := [99, 97, 99, 104, 101, 45, 99, 111, 110, 116, 114, 111, 108]
def noStoreL : List UInt8 := [110, 111, 45, 115, 116, 111, 114, 101]
def tencL : List UInt8 := [116, 114, 97, 110, 115, 102, 101, 114, 45, 101, 110, 99, 111, 100, 105, 110, 103]
def chunkedL : List UInt8 := [99, 104, 117, 110, 107, 101, 100]
def allowL : List UInt8 := [97, 108, 108, 111, 119]
def getL : List UInt8 := [71, 69, 84]
def retryL : List UInt8 := [114, 101, 116, 114, 121, 45, 97, 102, 116, 101, 114]
def oneL : List UInt8 := [49]
def connL : List UInt8 := [99, 111, 110, 110, 101, 99, 116, 105, 111, 110]
def closeL : List UInt8 := [99, 108, 111, 115, 101]
def okL : List UInt8 := [111, 107]
def drainL : List UInt8 := [100, 114, 97, 105, 110, 105, 110, 103]
/-! ### The statuses -/
def rs200 : List UInt8 := [79, 75]
def rs400 : List UInt8 := [66, 97, 100, 32, 82, 101, 113, 117, 101, 115, 116]
def rs404 : List UInt8 := [78, 111, 116, 32, 70, 111, 117, 110, 100]
def rs405 : List UInt8 := [77, 101, 116, 104, 111, 100, 32, 78, 111, 116, 32, 65, 108, 108, 111, 119, 101, 100]
def rs406 : List UInt8 := [78, 111, 116, 32, 65, 99, 99, 101, 112, 116, 97, 98, 108, 101]
def rs431 : List UInt8 := [82, 101, 113, 117, 101, 115, 116, 32, 72, 101, 97, 100, 101, 114, 32, 70, 105, 101, 108, 100, 115, 32, 84, 111, 111, 32, 76, 97, 114, 103, 101]
def rs503 : List UInt8 := [83, 101, 114, 118, 105, 99, 101, 32, 85, 110, 97, 118, 97, 105, 108, 97, 98, 108, 101]
def rs505 : List UInt8 := [72, 84, 84, 80, 32, 86, 101, 114, 115, 105, 111, 110, 32, 78, 111, 116, 32, 83, 117, 112, 112, 111, 114, 116, 101, 100]
def stats : List (Nat × List UInt8) := [(200, rs200), (400, rs400), (404, rs404), (405, rs405), (406, rs406), (431, rs431), (503, rs503), (505, rs505)]
def stat (j : Nat) : Nat × List UInt8 := stats.getD j (0, [])
/-- A status's reason. -/
def reason (s : Int) : Option (List UInt8) := (stats.find? fun p => (p.1 : Int) == s).map Prod.snd
theorem reason_some {s : Int} {r : List UInt8} (h : reason s = some r) : ∃ j, j < 8 ∧ s = ((stat j).1 : Int) ∧ r = (stat j).2 := by
  unfold reason at h
  cases hf : stats.find? fun p => (p.1 : Int) == s with
  | none => rw [hf] at h; cases h
  | some p =>
    rw [hf] at h
    obtain rfl : p.2 = r := by simpa using h
    have hm := List.mem_of_find?_eq_some hf
    have hp : ((p.1 : Int) == s) = true := List.find?_some (p := fun p : Nat × List UInt8 => (p.1 : Int) == s) hf
    obtain ⟨j, hj, hj2⟩ := List.getElem_of_mem hm
    refine ⟨j, hj, ?_, ?_⟩
    · unfold stat
      rw [List.getD_eq_getElem?_getD, List.getElem?_eq_getElem hj, hj2]
      exact (beq_iff_eq.1 hp).symm
    · unfold stat
      rw [List.getD_eq_getElem?_getD, List.getElem?_eq_getElem hj, hj2]
      rfl
theorem reason_at {j : Nat} (h : j < 8) : reason ((stat j).1 : Int) = some (stat j).2 := by
  rcases (by omega : j = 0 ∨ j = 1 ∨ j = 2 ∨ j = 3 ∨ j = 4 ∨ j = 5 ∨ j = 6 ∨ j = 7) with rfl | rfl | rfl | rfl | rfl | rfl | rfl | rfl <;> rfl
theorem reason_none {s : Int} (h : ∀ j, j < 8 → ¬ ((stat j).1 : Int) = s) : reason s = none := by
  cases hr : reason s with
  | none => rfl
  | some r =>
    obtain ⟨j, hj, h1, _⟩ := reason_some hr
    exact absurd h1.symm (h j hj)
/-! ### Heads -/
def crlf : List UInt8 := [13, 10]
def fieldT (q : PairL) : List UInt8 := q.1 ++ [58, 32] ++ q.2 ++ [13, 10]
/-- A head's bytes. -/
def headT (f : List UInt8) (l : List PairL) : List UInt8 := f ++ crlf ++ l.flatMap fieldT ++ crlf
noncomputable def firstT (s : Nat) (r : List UInt8) : List UInt8 := httpL ++ [32] ++ dec s ++ [32] ++ r
def own (s : Nat) : List PairL := if s = 405 then [(allowL, getL)] else if s = 503 then [(retryL, oneL)] else []
noncomputable def fieldsT (s n : Nat) : List PairL := [(ctypeL, plainT), (clenL, dec n)] ++ own s ++ [(connL, closeL)]
noncomputable def plainB (s : Nat) (r text : List UInt8) : List UInt8 := headT (firstT s r) (fieldsT s (text.length + 1)) ++ (text ++ [10])
noncomputable def plainO (s : Int) (text : List UInt8) : Option (List UInt8) := match reason s with
  | some r => if text.length ≤ 1000 then some (plainB s.toNat r text) else none
  | none => none
noncomputable def refusalT (s : Nat) (r : List UInt8) : List UInt8 := dec s ++ [32] ++ lowerL r
noncomputable def refusalO (s : Int) : Option (List UInt8) := match reason s with
  | some r => if s = 200 then none else some (plainB s.toNat r (refusalT s.toNat r))
  | none => none
noncomputable def healthT (a b : Nat) : List UInt8 := okL ++ [32] ++ dec a ++ [32] ++ dec b
noncomputable def healthO (a b : Int) (d : Bool) : Option (List UInt8) :=
  if a < 0 ∨ b < 0 then none else if d = true then some (plainB 503 rs503 drainL) else some (plainB 200 rs200 (healthT a.toNat b.toNat))
noncomputable def streamF : List UInt8 := firstT 200 rs200
def streamFl (c : Bool) : List PairL := [(ctypeL, streamT), (cacheL, noStoreL)] ++ (if c = true then [(tencL, chunkedL)] else [(connL, closeL)])
noncomputable def streamB (c : Bool) : List UInt8 := headT streamF (streamFl c)
/-! ### These heads may be -/
theorem stat_val {j : Nat} (h : j < 8) : (stat j).2.all valB = true ∧ (stat j).2.length ≤ 31 ∧ (stat j).1 < 1000 ∧ 200 ≤ (stat j).1 ∧ ∃ x b, (stat j).2 = x ++ [b] ∧ blkB b = false := by
  rcases (by omega : j = 0 ∨ j = 1 ∨ j = 2 ∨ j = 3 ∨ j = 4 ∨ j = 5 ∨ j = 6 ∨ j = 7) with rfl | rfl | rfl | rfl | rfl | rfl | rfl | rfl
  all_goals refine ⟨by decide, by decide, by decide, by decide, ⟨_, _, (List.dropLast_concat_getLast (by decide)).symm, by decide⟩⟩
theorem first_value {s : Nat} {r x : List UInt8} {b : UInt8} (hr : r.all valB = true) (he : r = x ++ [b]) (hb : blkB b = false) : valueL (firstT s r) = true := by
  have hv : (x ++ [b]).all valB = true := he ▸ hr
  rw [List.all_append, Bool.and_eq_true] at hv
  have e : firstT s r = 72 :: ([84, 84, 80, 47, 49, 46, 49, 32] ++ (dec s ++ [32]) ++ x ++ [b]) := by simp [firstT, httpL, he]
  rw [e]
  refine Rr.valueL_mid (by decide) ?_ hv.1 (by decide) hb (by decide) (by simpa using hv.2)
  rw [List.all_append, dec_val]
  decide
theorem first_begins (s : Nat) (r : List UInt8) : Rr.beginsB (firstT s r) = true := by
  have e : firstT s r = 72 :: ([84, 84, 80, 47, 49, 46, 49, 32] ++ dec s ++ [32] ++ r) := by simp [firstT, httpL]
  rw [e]
  simp [Rr.beginsB]
theorem fields_ok (s n : Nat) : (fieldsT s n).all Rr.fieldB = true := by
  have h1 : Rr.fieldB (ctypeL, plainT) = true := by decide
  have h2 : Rr.fieldB (clenL, dec n) = true := by
    unfold Rr.fieldB
    simp only [dec_value, Bool.and_true]
    decide
  have h3 : (own s).all Rr.fieldB = true := by
    unfold own
    split
    · decide
    · split <;> decide
  have h4 : Rr.fieldB (connL, closeL) = true := by decide
  unfold fieldsT
  rw [List.all_append, List.all_append, h3]
  simp [h1, h2, h4]
theorem plain_head {j n : Nat} (h : j < 8) : Rr.headB (firstT (stat j).1 (stat j).2) (fieldsT (stat j).1 n) = true := by
  obtain ⟨h1, _, _, _, x, b, h5, h6⟩ := stat_val h
  unfold Rr.headB Rr.bytesB
  rw [first_value h1 h5 h6, first_begins, fields_ok]
  rfl
theorem stream_fields (c : Bool) : (streamFl c).all Rr.fieldB = true := by cases c <;> decide
theorem stream_head (c : Bool) : Rr.headB streamF (streamFl c) = true := by
  have := (plain_head (j := 0) (n := 0) (by omega))
  unfold Rr.headB at this ⊢
  rw [Bool.and_eq_true] at this
  rw [Bool.and_eq_true]
  exact ⟨this.1, stream_fields c⟩
theorem own_len (s : Nat) : (own s).length ≤ 1 := by unfold own; split; decide; split <;> decide
theorem own_small (s : Nat) : ∀ q ∈ own s, q.1.length ≤ 11 ∧ q.2.length ≤ 3 := by unfold own; split; decide; split <;> decide
theorem fields_len (s n : Nat) : (fieldsT s n).length ≤ 4 := by have := own_len s; unfold fieldsT; simp; omega
theorem fields_small {s n : Nat} (hn : n < 18446744073709551616) : ∀ q ∈ fieldsT s n, q.1.length ≤ 14 ∧ q.2.length ≤ 20 := by
  intro q hq
  unfold fieldsT at hq
  rw [List.mem_append, List.mem_append] at hq
  rcases hq with (h | h) | h
  · simp only [List.mem_cons, List.not_mem_nil, or_false] at h
    rcases h with rfl | rfl
    · decide
    · exact ⟨show clenL.length ≤ 14 by decide, dec_len hn⟩
  · have := own_small s q h; omega
  · simp only [List.mem_cons, List.not_mem_nil, or_false] at h
    subst h; decide
theorem stream_small (c : Bool) : ∀ q ∈ streamFl c, q.1.length ≤ 17 ∧ q.2.length ≤ 20 := by cases c <;> decide
theorem first_len {j : Nat} (h : j < 8) : (firstT (stat j).1 (stat j).2).length ≤ 61 := by
  obtain ⟨_, h2, h3, _⟩ := stat_val h
  have := dec_len (x := (stat j).1) (by omega)
  simp [firstT, httpL]
  omega
theorem fieldT_len (q : PairL) : (fieldT q).length = q.1.length + q.2.length + 4 := by simp [fieldT]; omega
theorem flat_len {m : Nat} : ∀ {l : List PairL}, (∀ q ∈ l, (fieldT q).length ≤ m) → (l.flatMap fieldT).length ≤ l.length * m
  | [], _ => by simp
  | q :: r, h => by
    have h1 := h q List.mem_cons_self
    have h2 := flat_len (l := r) (fun x hx => h x (List.mem_cons_of_mem _ hx))
    rw [List.flatMap_cons, List.length_append, List.length_cons, Nat.succ_mul]
    omega
theorem head_len {f : List UInt8} {l : List PairL} (h1 : f.length ≤ 100) (h2 : l.length ≤ 10) (h3 : ∀ q ∈ l, q.1.length ≤ 17 ∧ q.2.length ≤ 20) : (headT f l).length ≤ 1000 := by
  have := flat_len (m := 41) (l := l) (fun q hq => by have := h3 q hq; rw [fieldT_len]; omega)
  have h4 : l.length * 41 ≤ 10 * 41 := Nat.mul_le_mul_right _ h2
  unfold headT crlf
  simp only [List.length_append, List.length_cons, List.length_nil]
  omega
end An
end Go.Proofs.YtabgpnieekcdhaaDoor
