import Derived.Test.YtlbiniibkbhghaaGreatDoorPk13
import Derived.Test.YtlbiniibkbhghaaGreatDoorPk3
import Derived.Deep.CutBlock
import Derived.Deep.CutRange
import Derived.BigRegion
import Derived.WalkMore
import Derived.Deep.RegionHeld3
namespace Go.Proofs.YtlbiniibkbhghaaGreatDoor
open Go.RowKit Go.Maps

/-! ## What is asked of a field of a Kind -/
theorem zeroFn (w : World) : (zeroValue 25).run Tryz.prog w = .ok .nilFunc w := by kernel_rfl
end Go.Proofs.YtlbiniibkbhghaaGreatDoor

namespace Go.Proofs.YtlbiniibkbhghaaGreatDoor
open Go.RowKit Go.Maps

/-! ## What is asked of a retry's value -/
def digitsOk (l : List UInt8) : Bool := (numR 10 l).2 == 0
/-! ## What a line says, by the first colon -/
theorem take_drop_at {l : List UInt8} {k : Nat} (h : l[k]? = some 58) : l = l.take k ++ 58 :: l.drop (k + 1) := by
  obtain ⟨hk, he⟩ := List.getElem?_eq_some_iff.1 h
  have := List.drop_eq_getElem_cons hk
  rw [he] at this
  rw [← this, List.take_append_drop]
theorem fieldF_at {l : List UInt8} {k : Nat} (h1 : l.head? ≠ some 58) (h : l[k]? = some 58) (hn : 58 ∉ l.take k) : fieldF l = ((kindK (l.take k) : Int), l.take k, Lib.trimPrefix (l.drop (k + 1)) [32]) := by
  have hl : l ≠ [] := by rintro rfl; simp at h
  have hc : cutC l = (l.take k, l.drop (k + 1), true) := by
    have := cutC_of (l.take k) (l.drop (k + 1)) hn
    rwa [← take_drop_at h] at this
  have := (fieldF_else hl h1).1
  rw [hc] at this
  exact this
theorem fieldF_no {l : List UInt8} (hl : l ≠ []) (hn : 58 ∉ l) : fieldF l = ((kindK l : Int), l, []) := by
  have h1 : l.head? ≠ some 58 := by
    intro h
    cases l with
    | nil => cases h
    | cons b r => simp only [List.head?_cons, Option.some.injEq] at h; subst h; exact hn (List.mem_cons_self ..)
  have := (fieldF_else hl h1).1
  rw [cutC_none l hn] at this
  exact this
/-- The document's Line. -/
def refLine (f : Int × List UInt8 × List UInt8) : List UInt8 := if f.1 = 2 then 58 :: f.2.2 else if f.2.2 = [] then f.2.1 else f.2.1 ++ 58 :: 32 :: f.2.2
theorem refLine_say {f : Int × List UInt8 × List UInt8} (h : sayF f = true) : refLine f = lineF f := by
  obtain ⟨ki, nm, vl⟩ := f
  unfold refLine lineF betw
  simp only
  by_cases h2 : ki = 2
  · subst h2
    have : nm = [] := of_decide_eq_true h
    subst this
    simp
  · rw [if_neg h2, if_neg h2]
    by_cases hv : vl = []
    · subst hv; simp
    · rw [if_neg hv, if_neg hv]; simp
theorem right_say (f : Int × List UInt8 × List UInt8) : decide (fieldF (refLine f) = f) = sayF f := by
  cases h : sayF f with
  | true => rw [refLine_say h, fieldF_lineF f h]; simp
  | false =>
    refine decide_eq_false fun e => ?_
    have := sayF_fieldF (refLine f)
    rw [e, h] at this
    cases this
def countsF (f : Int × List UInt8 × List UInt8) : Bool := sayF f && (if f.1 = 5 then !hasNought f.2.2 else if f.1 = 6 then digitsOk f.2.2 else true)
def retryF (f : Int × List UInt8 × List UInt8) : Int × Bool := if sayF f = true ∧ f.1 = 6 then ((numR 10 f.2.2).1, digitsOk f.2.2) else (0, false)
theorem step_bad {b c : Int} {r : Int × Int} (h : r.2 ≠ 0 → r.1 = 0) : (step b r c).2 ≠ 0 → (step b r c).1 = 0 := by
  unfold step
  split
  · unfold moreR
    split
    · unfold addR
      split
      · intro e; exact absurd rfl e
      · intro _; rfl
    · intro _; rfl
  · exact h
theorem goesR_bad (b : Int) (l : List UInt8) : (goesR b l).2 ≠ 0 → (goesR b l).1 = 0 := by
  have : ∀ (l : List UInt8) (r : Int × Int), (r.2 ≠ 0 → r.1 = 0) → ((l.foldl (fun r c => step b r (c.toNat : Int)) r).2 ≠ 0 → (l.foldl (fun r c => step b r (c.toNat : Int)) r).1 = 0) := by
    intro l
    induction l with
    | nil => intro r h; exact h
    | cons c l ih => intro r h; exact ih _ (step_bad h)
  exact this l _ (fun e => absurd rfl e)
theorem numR_bad (b : Int) (l : List UInt8) : (numR b l).2 ≠ 0 → (numR b l).1 = 0 := by
  intro h
  unfold numR at h ⊢
  split
  · rename_i hc
    rw [if_pos hc] at h
    exact goesR_bad b l h
  · rfl
theorem ib_no : ∀ (l : List UInt8) (c : UInt8), c ∉ l → Lib.indexByte l c = -1
  | [], _, _ => rfl
  | b :: r, c, h => by
    simp only [List.mem_cons, not_or] at h
    have hb : ¬ b = c := fun e => h.1 e.symm
    simp [Lib.indexByte, hb, ib_no r c h.2]
theorem ib_yes : ∀ (l : List UInt8) (c : UInt8), c ∈ l → 0 ≤ Lib.indexByte l c
  | [], _, h => absurd h (by simp)
  | b :: r, c, h => by
    by_cases hb : b = c
    · simp [Lib.indexByte, hb]
    · have hr : c ∈ r := by
        rcases List.mem_cons.1 h with e | e
        · exact absurd e.symm hb
        · exact e
      have := ib_yes r c hr
      simp only [Lib.indexByte, beq_iff_eq, hb, if_false]
      split <;> omega
theorem hasNought_no {l : List UInt8} (h : 0 ∉ l) : hasNought l = false := by
  unfold hasNought
  rw [ib_no l 0 h]
  rfl
theorem hasNought_yes {l : List UInt8} (h : 0 ∈ l) : hasNought l = true := decide_eq_true (ib_yes l 0 h)
end Go.Proofs.YtlbiniibkbhghaaGreatDoor

namespace Go.Proofs.YtlbiniibkbhghaaGreatDoor
open Go.RowKit Go.Maps

/-! ## The document's Of -/
theorem byte_at (l : List UInt8) (k : Nat) (__h : k < l.length) (h' : k < (⟨l.toArray⟩ : ByteArray).size) : ((⟨l.toArray⟩ : ByteArray)[k]'h') = l[k] := rfl
theorem ext_mk (l : List UInt8) (a b : Nat) : (⟨l.toArray⟩ : ByteArray).extract a b = ⟨((l.drop a).take (b - a)).toArray⟩ := by
  have h : ((⟨l.toArray⟩ : ByteArray).extract a b).data = ((l.drop a).take (b - a)).toArray := by
    apply Array.toList_inj.1
    rw [ByteArray.data_extract, Array.toList_extract, List.extract_eq_take_drop]
  generalize (⟨l.toArray⟩ : ByteArray).extract a b = x at h ⊢
  cases x
  exact congrArg ByteArray.mk h
theorem ext_end (l : List UInt8) (a : Nat) : (⟨l.toArray⟩ : ByteArray).extract a l.length = ⟨(l.drop a).toArray⟩ := by
  rw [ext_mk, List.take_of_length_le (by simp)]
theorem ext_from (l : List UInt8) (b : Nat) : (⟨l.toArray⟩ : ByteArray).extract 0 b = ⟨(l.take b).toArray⟩ := by
  rw [ext_mk]; simp
def RefF (w : World) (l : List UInt8) (F R : Nat) (wx : World) : Prop := ∃ nm vl, Has wx F 53 #[.int .i64 7, .string ⟨nm.toArray⟩, .string ⟨vl.toArray⟩] ∧ fieldF l = ((kindK nm : Int), nm, vl) ∧ Has wx R 53 #[.int .i64 0, .string ⟨#[]⟩, .string ⟨#[]⟩] ∧ Below w.heap.size w wx
end Go.Proofs.YtlbiniibkbhghaaGreatDoor

namespace Go.Proofs.YtlbiniibkbhghaaGreatDoor
open Go.RowKit Go.Maps

/-! ## The document's Line, Right -/
theorem cat_mk (a b : List UInt8) : (⟨a.toArray⟩ : ByteArray) ++ ⟨b.toArray⟩ = ⟨(a ++ b).toArray⟩ := by
  apply ByteArray.ext
  simp [ByteArray.data_append]
set_option maxRecDepth 100000 in
theorem refLineF_any (f : Int × List UInt8 × List UInt8) (w : World) (h1 : f.2.1.length ≤ 1000000) (h2 : f.2.2.length ≤ 1000000) : Calls Tryz.prog 32 #[.agg #[.int .i64 f.1, .string ⟨f.2.1.toArray⟩, .string ⟨f.2.2.toArray⟩]] w fun e w' => e = .returned (.string ⟨(refLine f).toArray⟩) ∧ Below w.heap.size w w' := by
  obtain ⟨ki, nm, vl⟩ := f
  simp only at h1 h2 ⊢
  have hr : refLine (ki, nm, vl) = if ki = 2 then 58 :: vl else if vl = [] then nm else nm ++ 58 :: 32 :: vl := rfl
  by_cases k2 : ki = 2
  · subst k2
    rw [if_pos rfl] at hr
    have hr' := Lib.hid hr
    clear hr
    have hcat := cat_mk [58] vl
    simp only [List.cons_append, List.nil_append] at hcat
    go_enter Tryz.func32, Tryz.ntmps32
    go_wp2
    go_ret
    exact ⟨by rw [hr'.out]; rfl, (Below.refl _ _).alloc (Nat.le_refl _) _⟩
  · rw [if_neg k2] at hr
    by_cases hv : vl = []
    · subst hv
      rw [if_pos rfl] at hr
      have hr' := Lib.hid hr
      clear hr
      go_enter Tryz.func32, Tryz.ntmps32
      go_wp2
      go_ret
      exact ⟨by rw [hr'.out]; rfl, (Below.refl _ _).alloc (Nat.le_refl _) _⟩
    · rw [if_neg hv] at hr
      have hie := isE hv
      have hr' := Lib.hid hr
      clear hr
      have hc1 := cat_mk nm [58, 32]
      have hc2 := cat_mk (nm ++ [58, 32]) vl
      rw [show nm ++ [58, 32] ++ vl = nm ++ 58 :: 32 :: vl by simp] at hc2
      obtain ⟨t, ht⟩ : ∃ t, nm ++ [58, 32] = t := ⟨_, rfl⟩
      have hl : t.length ≤ 1000002 := by rw [← ht]; simp; omega
      rw [ht] at hc1 hc2
      clear ht
      go_enter Tryz.func32, Tryz.ntmps32
      go_wp2
      go_ret
      exact ⟨by rw [hr'.out]; rfl, (Below.refl _ _).alloc (Nat.le_refl _) _⟩
theorem refLine_len (f : Int × List UInt8 × List UInt8) (h1 : f.2.1.length ≤ 400000) (h2 : f.2.2.length ≤ 400000) : (refLine f).length ≤ 1000000 := by
  unfold refLine
  split
  · simp; omega
  · split
    · omega
    · simp; omega
end Go.Proofs.YtlbiniibkbhghaaGreatDoor
