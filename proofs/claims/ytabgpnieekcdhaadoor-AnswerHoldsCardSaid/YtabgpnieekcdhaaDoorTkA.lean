import Derived.Test.YtabgpnieekcdhaaDoorL
import Derived.Lib.SplitLaws
namespace Go.Proofs.YtabgpnieekcdhaaDoor
open Go.RowKit

/-! ## The mathematics of words -/
def signsL : List UInt8 := [33, 35, 36, 37, 38, 39, 42, 43, 45, 46, 94, 95, 96, 124, 126]
def tokB (b : UInt8) : Bool := (97 ≤ b && b ≤ 122 || 65 ≤ b && b ≤ 90) || (48 ≤ b && b ≤ 57) || signsL.contains b
def valB (b : UInt8) : Bool := b == 9 || (32 ≤ b && b ≤ 126) || 128 ≤ b
def blkB (b : UInt8) : Bool := b == 9 || b == 32
def lowB (b : UInt8) : UInt8 := if 65 ≤ b && b ≤ 90 then b + 32 else b
def tokenL (s : List UInt8) : Bool := !s.isEmpty && s.all tokB
def dropL (s : List UInt8) : List UInt8 := s.dropWhile blkB
def dropR (s : List UInt8) : List UInt8 := (s.reverse.dropWhile blkB).reverse
def trimL (s : List UInt8) : List UInt8 := dropR (dropL s)
def valueL (s : List UInt8) : Bool := s.all valB && trimL s == s
def lowerL (s : List UInt8) : List UInt8 := s.map lowB
theorem dropL_yes {b : UInt8} (r : List UInt8) (h : blkB b = true) : dropL (b :: r) = dropL r := by simp [dropL, List.dropWhile, h]
theorem dropL_no {b : UInt8} (r : List UInt8) (h : blkB b = false) : dropL (b :: r) = b :: r := by simp [dropL, List.dropWhile, h]
theorem dropL_nil : dropL [] = [] := rfl
theorem dropR_nil : dropR [] = [] := rfl
theorem dropR_yes {b : UInt8} (x : List UInt8) (h : blkB b = true) : dropR (x ++ [b]) = dropR x := by simp [dropR, List.dropWhile, h]
theorem dropR_no {b : UInt8} (x : List UInt8) (h : blkB b = false) : dropR (x ++ [b]) = x ++ [b] := by simp [dropR, List.dropWhile, h]
theorem dropL_suffix (s : List UInt8) : dropL s <:+ s := List.dropWhile_suffix _
theorem dropR_prefix (s : List UInt8) : dropR s <+: s := by
  have h := List.dropWhile_suffix blkB (l := s.reverse)
  unfold dropR
  rw [← List.reverse_prefix] at h
  simpa using h
theorem snoc_of {s : List UInt8} (h : s ≠ []) : ∃ (x : List UInt8) (b : UInt8), s = x ++ [b] := ⟨s.dropLast, s.getLast h, (List.dropLast_concat_getLast h).symm⟩
/-- What is trimmed stays so. -/
theorem dropR_dropR (s : List UInt8) : dropR (dropR s) = dropR s := by
  unfold dropR
  rw [List.reverse_reverse]
  congr 1
  induction s.reverse with
  | nil => rfl
  | cons b r ih =>
    cases h : blkB b with
    | true => simpa [List.dropWhile, h] using ih
    | false => simp [List.dropWhile, h]
theorem dropL_stays {s : List UInt8} (h : dropL s = s) : dropL (dropR s) = dropR s := by
  obtain ⟨y, hy⟩ := dropR_prefix s
  cases hd : dropR s with
  | nil => rfl
  | cons b r =>
    rw [hd] at hy
    cases hb : blkB b with
    | false => exact dropL_no r hb
    | true =>
      exfalso
      rw [← hy, List.cons_append, dropL_yes _ hb] at h
      have := (dropL_suffix (r ++ y)).length_le
      rw [h] at this
      simp at this
      omega
theorem dropL_dropL (s : List UInt8) : dropL (dropL s) = dropL s := by
  induction s with
  | nil => rfl
  | cons b r ih =>
    cases h : blkB b with
    | true => rw [dropL_yes r h, ih]
    | false => rw [dropL_no r h, dropL_no r h]
theorem trimL_trimL (s : List UInt8) : trimL (trimL s) = trimL s := by
  unfold trimL
  rw [dropL_stays (dropL_dropL s), dropR_dropR]
theorem trimL_len (s : List UInt8) : (trimL s).length ≤ s.length := Nat.le_trans (dropR_prefix _).length_le (dropL_suffix s).length_le
theorem trimL_mem {s : List UInt8} {b : UInt8} (h : b ∈ trimL s) : b ∈ s := (dropL_suffix s).subset ((dropR_prefix _).subset h)
theorem lowB_lowB (b : UInt8) : lowB (lowB b) = lowB b := by
  have h : ∀ n : Fin 256, lowB (lowB (UInt8.ofFin n)) = lowB (UInt8.ofFin n) := by decide +kernel
  exact h b.toFin
theorem lowerL_lowerL (s : List UInt8) : lowerL (lowerL s) = lowerL s := by simp [lowerL, Function.comp_def, lowB_lowB]

/-! ## Lists' items -/
/-- What stands between commas. -/
def commasL : List UInt8 → List (List UInt8)
  | [] => [[]]
  | b :: r => if b = 44 then [] :: commasL r else match commasL r with
    | [] => [[b]]
    | p :: ps => (b :: p) :: ps
def itemsL (s : List UInt8) : List (List UInt8) := ((commasL s).map trimL).filter (fun t => !t.isEmpty)
theorem commasL_ne (d : List UInt8) : commasL d ≠ [] := by
  cases d with
  | nil => simp [commasL]
  | cons b r =>
    unfold commasL
    split
    · simp
    · split <;> simp
theorem commasL_none : ∀ d : List UInt8, 44 ∉ d → commasL d = [d]
  | [], _ => rfl
  | b :: r, h => by
    simp only [List.mem_cons, not_or] at h
    unfold commasL
    rw [if_neg (fun e => h.1 e.symm), commasL_none r h.2]
theorem commasL_at : ∀ (x : List UInt8) (r : List UInt8), 44 ∉ x → commasL (x ++ 44 :: r) = x :: commasL r
  | [], r, _ => by simp [commasL]
  | b :: x, r, h => by
    simp only [List.mem_cons, not_or] at h
    show commasL (b :: (x ++ 44 :: r)) = _
    conv => lhs; unfold commasL
    rw [if_neg (fun e => h.1 e.symm), commasL_at x r h.2]
theorem commasL_mem : ∀ (d : List UInt8), ∀ p ∈ commasL d, ∀ b ∈ p, b ∈ d ∧ b ≠ 44
  | [], p, hp, b, hb => by simp [commasL] at hp; subst hp; simp at hb
  | c :: r, p, hp, b, hb => by
    unfold commasL at hp
    split at hp
    · rcases List.mem_cons.1 hp with rfl | h
      · simp at hb
      · obtain ⟨h1, h2⟩ := commasL_mem r p h b hb
        exact ⟨List.mem_cons_of_mem _ h1, h2⟩
    · rename_i hc
      split at hp
      · simp at hp
        subst hp
        simp at hb
        subst hb
        exact ⟨List.mem_cons_self, hc⟩
      · rename_i q qs hq
        rcases List.mem_cons.1 hp with rfl | h
        · rcases List.mem_cons.1 hb with rfl | hb
          · exact ⟨List.mem_cons_self, hc⟩
          · obtain ⟨h1, h2⟩ := commasL_mem r q (by rw [hq]; exact List.mem_cons_self) b hb
            exact ⟨List.mem_cons_of_mem _ h1, h2⟩
        · obtain ⟨h1, h2⟩ := commasL_mem r p (by rw [hq]; exact List.mem_cons_of_mem _ h) b hb
          exact ⟨List.mem_cons_of_mem _ h1, h2⟩
/-- Items of a value are values, and have no comma. -/
theorem itemsL_good {s p : List UInt8} (hp : p ∈ itemsL s) : p ≠ [] ∧ 44 ∉ p ∧ (s.all valB = true → valueL p = true) ∧ p.length ≤ s.length := by
  unfold itemsL at hp
  obtain ⟨h1, h2⟩ := List.mem_filter.1 hp
  obtain ⟨q, hq, rfl⟩ := List.mem_map.1 h1
  refine ⟨fun e => by simp [e] at h2, fun h => (commasL_mem s q hq 44 (trimL_mem h)).2 rfl, fun hv => ?_, Nat.le_trans (trimL_len q) ?_⟩
  · unfold valueL
    rw [trimL_trimL, beq_self_eq_true, Bool.and_true]
    rw [List.all_eq_true] at hv ⊢
    exact fun b hb => hv b (commasL_mem s q hq b (trimL_mem hb)).1
  · clear hp h1 h2
    induction s generalizing q with
    | nil => simp [commasL] at hq; subst hq; simp
    | cons c r ih =>
      unfold commasL at hq
      split at hq
      · rcases List.mem_cons.1 hq with rfl | h
        · simp
        · have := ih q h; simp; omega
      · split at hq
        · simp at hq; subst hq; simp
        · rename_i u us hu
          rcases List.mem_cons.1 hq with rfl | h
          · have := ih u (by rw [hu]; exact List.mem_cons_self); simp; omega
          · have := ih q (by rw [hu]; exact List.mem_cons_of_mem _ h); simp; omega

/-! ## Quoted texts -/
/-- What is behind the quote with which one begins. -/
def quoteL : List UInt8 → Option (List UInt8)
  | [] => none
  | 34 :: r => if r = [] then some [] else none
  | 92 :: r => match r with
    | [] => none
    | b :: r => if valB b then (quoteL r).map (b :: ·) else none
  | b :: r => if valB b then (quoteL r).map (b :: ·) else none
def quotedL (s : List UInt8) : Option (List UInt8) := match s with
  | 34 :: r => quoteL r
  | _ => none
/-- A \ ahead of each byte. -/
def escL (s : List UInt8) : List UInt8 := s.flatMap fun b => [92, b]
theorem quoteL_esc : ∀ s : List UInt8, s.all valB = true → quoteL (escL s ++ [34]) = some s
  | [], _ => by simp [escL, quoteL]
  | b :: r, h => by
    simp only [List.all_cons, Bool.and_eq_true] at h
    have := quoteL_esc r h.2
    show quoteL (92 :: b :: (escL r ++ [34])) = _
    simp [quoteL, h.1, this]
end Go.Proofs.YtabgpnieekcdhaaDoor
