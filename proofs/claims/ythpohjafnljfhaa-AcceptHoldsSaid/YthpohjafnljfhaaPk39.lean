import Derived.Test.YthpohjafnljfhaaPk35
import Derived.DeepKeys
import Derived.Laws.StructEq
namespace Go.Proofs.Ythpohjafnljfhaa
open Go.RowKit

/-! ## Ranges are small; one is the same as itself -/
namespace Ac
theorem pars_few : ∀ {ps : List (List UInt8)} {k : Nat} {x : Nat × Nat}, pars k ps = some x → x.1 ≤ k + ps.length
  | [], k, x, h => by
    injection h with h
    subst h
    exact Nat.le_refl _
  | y :: ps, k, x, h => by
    unfold pars at h
    split at h
    · have := pars_few h
      simp; omega
    · split at h
      · cases h
      · split at h
        · split at h
          · cases h
          · split at h
            · injection h with h
              subst h
              simp
            · cases h
        · have := pars_few h
          simp; omega
theorem one_few {t : List UInt8} {r : Rg} (h : one t = some r) : r.ty.length ≤ t.length ∧ r.sub.length ≤ t.length ∧ r.params ≤ t.length + 1 := by
  unfold one at h
  have hm := sp_mem (c := 59) (by decide) false t
  have hl := sp_len (c := 59) (by decide) false t
  cases hs : sp 59 false t with
  | nil => exact absurd hs (sp_ne _ _ _)
  | cons p ps =>
    rw [hs] at h hm hl
    simp only [List.map_cons] at h
    have hp := hm p List.mem_cons_self
    have ht := trim_len p
    have e := congrArg List.length (List.takeWhile_append_dropWhile (p := (· != (47 : UInt8))) (l := trim p))
    rw [List.length_append] at e
    split at h
    · cases h
    · rename_i c u hd
      rw [hd, List.length_cons] at e
      split at h
      · cases hq : pars 0 (ps.map trim) with
        | none => rw [hq] at h; cases h
        | some x =>
          rw [hq] at h
          injection h with h
          subst h
          have := pars_few hq
          rw [List.length_map] at this
          simp only [lower, List.length_map] at hl ⊢
          simp at hl
          omega
      · cases h
theorem items_len {s p : List UInt8} (h : p ∈ items s) : p.length ≤ s.length := by
  obtain ⟨x, hx, rfl⟩ := List.mem_map.1 (List.mem_filter.1 h).1
  exact Nat.le_trans (trim_len x) (sp_mem (by decide) false s x hx)
theorem allO_from {α β : Type} {f : α → Option β} : ∀ {l : List α} {m : List β}, allO f l = some m → ∀ y ∈ m, ∃ x ∈ l, f x = some y
  | [], m, h, y, hy => by
    injection h with h
    subst h
    cases hy
  | a :: l, m, h, y, hy => by
    unfold allO at h
    split at h
    · rename_i b n h1 h2
      injection h with h
      subst h
      rcases List.mem_cons.1 hy with rfl | hy
      · exact ⟨a, List.mem_cons_self, h1⟩
      · obtain ⟨x, hx, hf⟩ := allO_from h2 y hy
        exact ⟨x, List.mem_cons_of_mem _ hx, hf⟩
    · cases h
theorem allO_len {α β : Type} {f : α → Option β} : ∀ {l : List α} {m : List β}, allO f l = some m → m.length = l.length
  | [], m, h => by
    injection h with h
    subst h
    rfl
  | a :: l, m, h => by
    unfold allO at h
    split at h
    · rename_i b n h1 h2
      injection h with h
      subst h
      simp [allO_len h2]
    · cases h
theorem list_few {s : List UInt8} {l : List Rg} (h : list s = some l) : l.length ≤ s.length + 1 ∧ ∀ r ∈ l, r.ty.length ≤ s.length ∧ r.sub.length ≤ s.length ∧ r.params ≤ s.length + 1 ∧ r.quality ≤ 1000 := by
  have hq := list_le h
  unfold list at h
  split at h
  · refine ⟨?_, fun r hr => ?_⟩
    · rw [allO_len h]
      refine Nat.le_trans (List.length_filter_le _ _) ?_
      rw [List.length_map]
      exact sp_len (by decide) false s
    · obtain ⟨x, hx, hf⟩ := allO_from h r hr
      have h1 := one_few hf
      have h2 := items_len hx
      have h3 := hq r hr
      omega
  · cases h
end Ac
theorem rg_lits (x : Ac.Rg) (h1 : x.ty.length ≤ 100000) (h2 : x.sub.length ≤ 100000) (h3 : x.params ≤ 100001) (h4 : x.quality ≤ 1000) : Try.prog.keyLits 3 33 (rgC x) = some [.string x.ty, .string x.sub, .int .i64 (x.params : Int), .int .i64 (x.quality : Int)] := by
  have k1 : Try.prog.cellsOf 9 = 1 := by kernel_rfl
  have k3 : Try.prog.cellsOf 3 = 1 := by kernel_rfl
  have k2 : Try.prog.cellsOf 33 = 4 := by kernel_rfl
  have z : ∀ a : List UInt8, a.length ≤ 100000 → (⟨a.toArray⟩ : ByteArray).size ≤ maxLen := fun a ha => by
    show a.toArray.size ≤ _
    simp [maxLen]; omega
  have z1 := z _ h1
  have z2 := z _ h2
  have m1 : IntKind.i64.min = -9223372036854775808 := by decide
  have m2 : IntKind.i64.max = 9223372036854775807 := by decide
  have i1 : (Lit.int .i64 (x.params : Int)).wf = true := by simp [Lit.wf, m1, m2]; omega
  have i2 : (Lit.int .i64 (x.quality : Int)).wf = true := by simp [Lit.wf, m1, m2]; omega
  unfold rgC
  simp [Program.keyLits, Try.underlying33, Try.underlying9, Try.underlying3, k1, k2, k3, z1, z2, i1, i2]
theorem rg_equal (x : Ac.Rg) (h1 : x.ty.length ≤ 100000) (h2 : x.sub.length ≤ 100000) (h3 : x.params ≤ 100001) (h4 : x.quality ≤ 1000) (w : World) :
    (Op.equalIn 10000 33 (.agg #[.string ⟨x.ty.toArray⟩, .string ⟨x.sub.toArray⟩, .int .i64 (x.params : Int), .int .i64 (x.quality : Int)]) (.agg #[.string ⟨x.ty.toArray⟩, .string ⟨x.sub.toArray⟩, .int .i64 (x.params : Int), .int .i64 (x.quality : Int)])).run Try.prog w = .ok true w := by
  obtain ⟨r, hr, hiff⟩ := run_equalIn_deep (P := Try.prog) 9997 3 33 (by kernel_rfl) w 3 3 (.agg #[.string ⟨x.ty.toArray⟩, .string ⟨x.sub.toArray⟩, .int .i64 (x.params : Int), .int .i64 (x.quality : Int)]) (.agg #[.string ⟨x.ty.toArray⟩, .string ⟨x.sub.toArray⟩, .int .i64 (x.params : Int), .int .i64 (x.quality : Int)]) _ _ (by kernel_rfl) (by kernel_rfl) (rg_lits x h1 h2 h3 h4) (rg_lits x h1 h2 h3 h4)
  rw [hr]
  rw [show r = true from hiff.2 rfl]
end Go.Proofs.Ythpohjafnljfhaa
