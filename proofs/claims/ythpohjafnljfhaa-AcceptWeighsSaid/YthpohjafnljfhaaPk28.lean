import Derived.Test.YthpohjafnljfhaaPk26
import Derived.Test.YthpohjafnljfhaaPk27
namespace Go.Proofs.Ythpohjafnljfhaa

/-! ## Words' mathematics (layer 9) and ranges' (layer 12) are one -/
namespace Ac
theorem tok_eq : tok = tokB := rfl
theorem val_eq : val = valB := rfl
theorem blk_eq : blk = blkB := rfl
theorem low_eq : low = lowB := rfl
theorem token_eq (s : List UInt8) : token s = tokenL s := rfl
theorem trim_eq (s : List UInt8) : trim s = trimL s := rfl
theorem value_eq (s : List UInt8) : value s = valueL s := rfl
theorem lower_eq (s : List UInt8) : lower s = lowerL s := rfl
theorem quoteT_eq : ∀ s : List UInt8, quoteT s = quoteL s
  | [] => rfl
  | b :: r => by
    by_cases h34 : b = 34
    · subst h34; rfl
    · by_cases h92 : b = 92
      · subst h92
        cases r with
        | nil => rfl
        | cons d v =>
          simp only [quoteT, quoteL, quoteT_eq v, val_eq]
      · have ih := quoteT_eq r
        have e1 : quoteT (b :: r) = if val b then (quoteT r).map (b :: ·) else none := by
          conv => lhs; unfold quoteT
          split
          · rename_i e; cases e
          · rename_i e; injection e with e _; exact absurd e h34
          · rename_i e; injection e with e _; exact absurd e h92
          · rename_i e; injection e with e1 e2; subst e1; subst e2; rfl
        have e2 : quoteL (b :: r) = if valB b then (quoteL r).map (b :: ·) else none := by
          conv => lhs; unfold quoteL
          split
          · rename_i e; cases e
          · rename_i e; injection e with e _; exact absurd e h34
          · rename_i e; injection e with e _; exact absurd e h92
          · rename_i e; injection e with e1 e2; subst e1; subst e2; rfl
        rw [e1, e2, ih, val_eq]
theorem quoted_eq (s : List UInt8) : quoted s = quotedL s := by
  cases s with
  | nil => rfl
  | cons b r =>
    by_cases h : b = 34
    · subst h; exact quoteT_eq r
    · unfold quoted quotedL
      split
      · rename_i e; injection e with e _; exact absurd e h
      · split
        · rename_i e; injection e with e _; exact absurd e h
        · rfl
/-- What stands between such bytes, as a reader finds it. -/
theorem sp_find (c : UInt8) : ∀ q s, (match findL c s q with | none => sp c q s = [s] | some r => sp c q s = s.take (s.length - r.length - 1) :: sp c false r ∧ r.length < s.length) := by
  refine goes (fun q => ?_) ?_ (fun d v ih => ?_) (fun q b r hn ih => ?_)
  · show sp c q [] = [[]]
    simp [sp]
  · rw [findL_cons, if_neg (by simp), if_neg (by decide), if_pos ⟨rfl, rfl⟩]
    simp [sp]
  · rw [findL_cons, if_neg (by simp), if_neg (by decide), if_pos ⟨rfl, rfl⟩]
    show match findL c v true with | none => consH 92 (consH d (sp c true v)) = [92 :: d :: v] | some r => consH 92 (consH d (sp c true v)) = (92 :: d :: v).take ((92 :: d :: v).length - r.length - 1) :: sp c false r ∧ r.length < (92 :: d :: v).length
    cases hf : findL c v true with
    | none =>
      rw [hf] at ih
      simp only at ih ⊢
      rw [ih]; rfl
    | some r =>
      rw [hf] at ih
      simp only at ih ⊢
      obtain ⟨h1, h2⟩ := ih
      rw [h1]
      refine ⟨?_, by simp; omega⟩
      rw [show (92 :: d :: v).length - r.length - 1 = (v.length - r.length - 1) + 1 + 1 by simp; omega]
      rfl
  · rw [sp_step r hn]
    by_cases hx : b = c ∧ q = false
    · rw [if_pos hx, findL_yes r hx]
      refine ⟨?_, by simp⟩
      rw [show (b :: r).length - r.length - 1 = 0 by simp]
      rfl
    · have e : findL c (b :: r) q = findL c r (if b = 34 then !q else q) := by
        rw [findL_no r hx]
        unfold stepS
        by_cases h34 : b = 34
        · rw [if_pos h34, if_pos h34]
        · rw [if_neg h34, if_neg h34, if_neg (fun h => hn ⟨h.2, h.1⟩)]
      rw [if_neg hx, e]
      cases hf : findL c r (if b = 34 then !q else q) with
      | none =>
        rw [hf] at ih
        simp only at ih ⊢
        rw [ih]; rfl
      | some u =>
        rw [hf] at ih
        simp only at ih ⊢
        obtain ⟨h1, h2⟩ := ih
        rw [h1]
        refine ⟨?_, by simp; omega⟩
        rw [show (b :: r).length - u.length - 1 = (r.length - u.length - 1) + 1 by simp; omega]
        rfl
theorem sp_none {c : UInt8} {q : Bool} {s : List UInt8} (h : findL c s q = none) : sp c q s = [aheadL c s q] := by
  have := sp_find c q s
  rw [h] at this
  unfold aheadL
  rw [h]
  exact this
theorem sp_some {c : UInt8} {q : Bool} {s r : List UInt8} (h : findL c s q = some r) : sp c q s = aheadL c s q :: sp c false r := by
  have := sp_find c q s
  rw [h] at this
  unfold aheadL
  rw [h]
  exact this.1
end Ac
end Go.Proofs.Ythpohjafnljfhaa
