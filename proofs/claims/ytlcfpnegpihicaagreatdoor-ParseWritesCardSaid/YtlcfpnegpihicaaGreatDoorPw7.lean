import Derived.Test.YtlcfpnegpihicaaGreatDoorPw6
import Derived.BigQuiet
import Derived.ScopeJumps
namespace Go.Proofs.YtlcfpnegpihicaaGreatDoor
open Go.RowKit Go.Maps

/-! ## The line of what is said -/
def betw (f : Int × List UInt8 × List UInt8) : List UInt8 := if f.1 = 2 then [58] else if f.2.2 = [] then [] else [58, 32]
def lineF (f : Int × List UInt8 × List UInt8) : List UInt8 := f.2.1 ++ betw f ++ f.2.2
end Go.Proofs.YtlcfpnegpihicaaGreatDoor

namespace Go.Proofs.YtlcfpnegpihicaaGreatDoor
open Go.RowKit Go.Maps

/-! ## Does some text say it? Line -/
def hasColon (l : List UInt8) : Bool := decide (0 ≤ Lib.indexByte l 58)
def sayF (f : Int × List UInt8 × List UInt8) : Bool :=
  if f.1 = 1 then decide (f.2.1 = [] ∧ f.2.2 = []) else if f.1 = 2 then decide (f.2.1 = []) else decide (f.2.1 ≠ [] ∧ hasColon f.2.1 = false ∧ (kindK f.2.1 : Int) = f.1)
theorem isE {l : List UInt8} (h : l ≠ []) : l.isEmpty = false := by
  cases l with
  | nil => exact absurd rfl h
  | cons x r => rfl
def SayF (f : Int × List UInt8 × List UInt8) (w : World) (e : Ending) (w' : World) : Prop := e = .returned (.bool (sayF f)) ∧ Below w.heap.size w w'
set_option maxRecDepth 100000 in
theorem sayF_any (k : Nat) (f : Int × List UInt8 × List UInt8) (l : List UInt8) (w : World) (hk : Has w k 191 (undCells f l)) (h1 : f.2.1.length ≤ 1000000) (hN : NamesT w) :
    Calls Tryz.prog 105 #[.pointer (some ⟨k, 0, none⟩)] w (SayF f w) := by
  obtain ⟨ki, nm, vl⟩ := f
  simp only at h1
  have c0 := hk.cell 0
  have c1 := hk.cell 1
  have c2 := hk.cell 2
  simp [undCells] at c0 c1 c2
  by_cases k1 : ki = 1
  · subst k1
    have hs : sayF (1, nm, vl) = decide (nm = [] ∧ vl = []) := rfl
    have hs' := Lib.hid hs
    clear hk hN hs
    by_cases e1 : nm = []
    · subst e1
      by_cases e2 : vl = []
      · subst e2
        go_enter Tryz.func105, Tryz.ntmps105
        go_wp2
        go_ret
        exact ⟨by rw [hs'.out]; rfl, Below.refl _ _⟩
      · have hie := isE e2
        go_enter Tryz.func105, Tryz.ntmps105
        go_wp2
        go_ret
        exact ⟨by rw [hs'.out, decide_eq_false (fun h => e2 h.2)]; rfl, Below.refl _ _⟩
    · have hie := isE e1
      go_enter Tryz.func105, Tryz.ntmps105
      go_wp2
      go_ret
      exact ⟨by rw [hs'.out, decide_eq_false (fun h => e1 h.1)]; rfl, Below.refl _ _⟩
  by_cases k2 : ki = 2
  · subst k2
    have hs : sayF (2, nm, vl) = decide (nm = []) := rfl
    have hs' := Lib.hid hs
    clear hk hN hs
    by_cases e1 : nm = []
    · subst e1
      go_enter Tryz.func105, Tryz.ntmps105
      go_wp2
      go_ret
      exact ⟨by rw [hs'.out]; rfl, Below.refl _ _⟩
    · have hie := isE e1
      go_enter Tryz.func105, Tryz.ntmps105
      go_wp2
      go_ret
      exact ⟨by rw [hs'.out, decide_eq_false e1]; rfl, Below.refl _ _⟩
  · have hs : sayF (ki, nm, vl) = decide (nm ≠ [] ∧ hasColon nm = false ∧ (kindK nm : Int) = ki) := by unfold sayF; rw [if_neg k1, if_neg k2]
    have hs' := Lib.hid hs
    have hkl := hk.lt
    have hall := Lib.hid (fun (W : World) (h : Below w.heap.size w W) => show W.cell? ⟨k, 0, none⟩ = some (.int .i64 ki) ∧ W.cell? ⟨k, 1, none⟩ = some (.string ⟨nm.toArray⟩) from ⟨(hk.below h hk.lt).cell 0, (hk.below h hk.lt).cell 1⟩)
    have hb0 := Lib.hid (Below.refl w.heap.size w).drew
    have hct := Lib.hid (fun W => Tryz.strings_Contains_one ⟨nm.toArray⟩ 58 W)
    rw [show (ByteArray.mk nm.toArray).data.toList = nm from by simp] at hct
    have hko := Lib.hid (fun W (h : Below w.heap.size w W) => kindOf_any ⟨nm.toArray⟩ W (by show nm.toArray.size ≤ _; simp [maxLen]; omega) (hN.below h))
    rw [show (ByteArray.mk nm.toArray).data.toList = nm from by simp] at hko
    clear hk hN hs
    by_cases e1 : nm = []
    · subst e1
      go_enter Tryz.func105, Tryz.ntmps105
      go_wp2
      go_quiet (fail)
      go_wp2
      go_ret
      exact ⟨by rw [hs'.out, decide_eq_false (fun h => h.1 rfl)]; rfl, below_draws (Below.refl _ _) _⟩
    · have hie := isE e1
      cases hc : hasColon nm with
      | true =>
        rw [show decide (0 ≤ Lib.indexByte nm 58) = true from hc] at hct
        go_enter Tryz.func105, Tryz.ntmps105
        go_wp2
        go_quiet ((go_at_call 128; exact Calls.quiet_of_same (hct.out _)))
        go_wp2
        go_ret
        exact ⟨by rw [hs'.out, decide_eq_false (fun h => by rw [hc] at h; cases h.2.1)]; rfl, below_draws (Below.refl _ _) _⟩
      | false =>
        rw [show decide (0 ≤ Lib.indexByte nm 58) = false from hc] at hct
        go_enter Tryz.func105, Tryz.ntmps105
        go_wp2
        go_region_held3 (fun W => W.cell? ⟨k, 0, none⟩ = some (.int .i64 ki) ∧ W.cell? ⟨k, 1, none⟩ = some (.string ⟨nm.toArray⟩))
          (first
          | with_reducible exact hall.out _ hb2'.out
          | with_reducible exact hall.out _ hb0.out
          | fail)
          (first
          | (go_at_call 128; (with_reducible refine Calls.mono (hct.out _) ?_); rintro e w1 ⟨rfl, rfl⟩)
          | (go_at_call 127; (with_reducible refine Calls.mono (hko.out _ hb0.out) ?_); rintro e w2 ⟨rfl, hb2⟩; have hb2' := Lib.hid (hb0.out.trans hb2); clear hb2)
          | fail)
        go_wp2
        go_ret
        refine ⟨?_, hb2'.out⟩
        rw [hs'.out]
        show Ending.returned (.bool ((kindK nm : Int) == ki)) = Ending.returned (.bool (decide (nm ≠ [] ∧ hasColon nm = false ∧ (kindK nm : Int) = ki)))
        have : ((kindK nm : Int) == ki) = decide (nm ≠ [] ∧ hasColon nm = false ∧ (kindK nm : Int) = ki) := by
          rw [hc]
          by_cases h : (kindK nm : Int) = ki <;> simp [h, e1]
        rw [this]
end Go.Proofs.YtlcfpnegpihicaaGreatDoor

namespace Go.Proofs.YtlcfpnegpihicaaGreatDoor
open Go.RowKit Go.Maps

/-! ## Line -/
end Go.Proofs.YtlcfpnegpihicaaGreatDoor

namespace Go.Proofs.YtlcfpnegpihicaaGreatDoor
open Go.RowKit Go.Maps

/-! ## Name; num -/
/-! ## What a line says is said by its Line -/
theorem index_one (l : List UInt8) (c : UInt8) : Lib.index l [c] = Lib.indexByte l c := by
  induction l with
  | nil => rfl
  | cons b r ih =>
    unfold Lib.index Lib.indexByte
    rw [ih]
    by_cases h : b = c
    · subst h; simp
    · have h' : ¬ c = b := fun e => h e.symm
      simp [h, h']
/-- Cut at the first colon. -/
def cutC : List UInt8 → List UInt8 × List UInt8 × Bool
  | [] => ([], [], false)
  | b :: r => if b = 58 then ([], r, true) else (b :: (cutC r).1, (cutC r).2.1, (cutC r).2.2)
theorem cut_cutC : ∀ (l : List UInt8), Lib.cut l [58] = cutC l
  | [] => rfl
  | b :: r => by
    have ih := cut_cutC r
    have hg := Lib.indexByte_ge r 58
    unfold Lib.cut at ih ⊢
    rw [index_one] at ih ⊢
    unfold cutC
    by_cases h : b = 58
    · subst h; simp [Lib.indexByte]
    · have hib : Lib.indexByte (b :: r) 58 = if Lib.indexByte r 58 = -1 then -1 else Lib.indexByte r 58 + 1 := by simp [Lib.indexByte, h]
      rw [hib, if_neg h, ← ih]
      by_cases h1 : Lib.indexByte r 58 = -1
      · simp [h1]
      · have h0 : 0 ≤ Lib.indexByte r 58 := by omega
        have h2 : (Lib.indexByte r 58 + 1).toNat = (Lib.indexByte r 58).toNat + 1 := by omega
        have h3 : 0 ≤ Lib.indexByte r 58 + 1 := by omega
        simp only [if_neg h1, if_pos h0, if_pos h3, h2]
        simp []
theorem cutC_no : ∀ (l : List UInt8), 58 ∉ (cutC l).1
  | [] => by simp [cutC]
  | b :: r => by
    unfold cutC
    split
    · simp
    · rename_i h
      simp only [List.mem_cons, not_or]
      exact ⟨fun e => h e.symm, cutC_no r⟩
theorem cutC_of : ∀ (a b : List UInt8), 58 ∉ a → cutC (a ++ 58 :: b) = (a, b, true)
  | [], b, _ => by simp [cutC]
  | x :: a, b, h => by
    simp only [List.mem_cons, not_or] at h
    simp only [List.cons_append, cutC]
    rw [if_neg (fun e => h.1 e.symm), cutC_of a b h.2]
theorem cutC_none : ∀ (a : List UInt8), 58 ∉ a → cutC a = (a, [], false)
  | [], _ => rfl
  | x :: a, h => by
    simp only [List.mem_cons, not_or] at h
    simp only [cutC]
    rw [if_neg (fun e => h.1 e.symm), cutC_none a h.2]
end Go.Proofs.YtlcfpnegpihicaaGreatDoor

namespace Go.Proofs.YtlcfpnegpihicaaGreatDoor
open Go.RowKit Go.Maps

/-! ## What a line says, some text says -/
theorem indexByte_no : ∀ (l : List UInt8), 58 ∉ l → Lib.indexByte l 58 = -1
  | [], _ => rfl
  | b :: r, h => by
    simp only [List.mem_cons, not_or] at h
    have hb : ¬ b = 58 := fun e => h.1 e.symm
    simp [Lib.indexByte, hb, indexByte_no r h.2]
theorem indexByte_yes : ∀ (l : List UInt8), 58 ∈ l → 0 ≤ Lib.indexByte l 58
  | [], h => absurd h (by simp)
  | b :: r, h => by
    by_cases hb : b = 58
    · simp [Lib.indexByte, hb]
    · have hr : 58 ∈ r := by
        rcases List.mem_cons.1 h with e | e
        · exact absurd e.symm hb
        · exact e
      have := indexByte_yes r hr
      simp only [Lib.indexByte, beq_iff_eq, hb, if_false]
      split <;> omega
theorem hasColon_iff (l : List UInt8) : hasColon l = false ↔ 58 ∉ l := by
  unfold hasColon
  constructor
  · intro h hm
    have := indexByte_yes l hm
    rw [decide_eq_true this] at h
    cases h
  · intro h
    rw [indexByte_no l h]
    rfl
theorem kindK_range (s : List UInt8) : 3 ≤ kindK s ∧ kindK s ≤ 7 := by
  unfold kindK
  (repeat' split) <;> omega
theorem fieldF_else {l : List UInt8} (h1 : l ≠ []) (h2 : l.head? ≠ some 58) : fieldF l = ((kindK (cutC l).1 : Int), (cutC l).1, Lib.trimPrefix (cutC l).2.1 [32]) ∧ (cutC l).1 ≠ [] := by
  cases l with
  | nil => exact absurd rfl h1
  | cons b r =>
    have hb : ¬ b = 58 := fun e => h2 (by simp [e])
    have hp : Lib.hasPrefix (b :: r) [58] = false := by (simp [Lib.hasPrefix, List.isPrefixOf]; exact fun e => hb e.symm)
    constructor
    · unfold fieldF
      rw [if_neg h1, hp, cut_cutC]
      rfl
    · unfold cutC
      rw [if_neg hb]
      simp
theorem fieldF_comment (r : List UInt8) : fieldF (58 :: r) = (2, [], r) := by
  unfold fieldF
  rw [if_neg (by simp)]
  have hp : Lib.hasPrefix (58 :: r) [58] = true := by simp [Lib.hasPrefix, List.isPrefixOf]
  rw [if_pos hp]
  simp [Lib.trimPrefix, Lib.hasPrefix, List.isPrefixOf]
theorem sayF_fieldF (l : List UInt8) : sayF (fieldF l) = true := by
  by_cases h1 : l = []
  · subst h1; rfl
  by_cases h2 : l.head? = some 58
  · cases l with
    | nil => exact absurd rfl h1
    | cons b r =>
      obtain rfl : b = 58 := by simpa using h2
      rw [fieldF_comment]
      rfl
  · obtain ⟨e, hne⟩ := fieldF_else h1 h2
    rw [e]
    have hk := kindK_range (cutC l).1
    unfold sayF
    simp only
    rw [if_neg (by omega), if_neg (by omega)]
    exact decide_eq_true ⟨hne, (hasColon_iff _).2 (cutC_no l), trivial⟩
theorem head_ne {nm : List UInt8} (h : nm ≠ []) (hn : 58 ∉ nm) (t : List UInt8) : (nm ++ t).head? ≠ some 58 := by
  cases nm with
  | nil => exact absurd rfl h
  | cons b r =>
    simp only [List.mem_cons, not_or] at hn
    simp only [List.cons_append, List.head?_cons, ne_eq, Option.some.injEq]
    exact fun e => hn.1 e.symm
/-- What is said is said by its Line, too. -/
theorem fieldF_lineF (f : Int × List UInt8 × List UInt8) (h : sayF f = true) : fieldF (lineF f) = f := by
  obtain ⟨ki, nm, vl⟩ := f
  unfold sayF at h
  simp only at h
  by_cases k1 : ki = 1
  · subst k1
    rw [if_pos rfl] at h
    obtain ⟨rfl, rfl⟩ := of_decide_eq_true h
    rfl
  · rw [if_neg k1] at h
    by_cases k2 : ki = 2
    · subst k2
      rw [if_pos rfl] at h
      obtain rfl := of_decide_eq_true h
      show fieldF (58 :: vl) = _
      exact fieldF_comment vl
    · rw [if_neg k2] at h
      obtain ⟨hn, hc, hk⟩ := of_decide_eq_true h
      have hno := (hasColon_iff nm).1 hc
      have hb : betw (ki, nm, vl) = if vl = [] then [] else [58, 32] := by unfold betw; rw [if_neg k2]
      unfold lineF
      rw [hb]
      simp only
      by_cases hv : vl = []
      · subst hv
        rw [if_pos rfl, List.append_nil, List.append_nil]
        obtain ⟨e, _⟩ := fieldF_else hn (by have := head_ne hn hno []; rwa [List.append_nil] at this)
        rw [e, cutC_none nm hno, hk]
        rfl
      · rw [if_neg hv]
        have he : nm ++ [58, 32] ++ vl = nm ++ 58 :: 32 :: vl := by simp
        rw [he]
        obtain ⟨e, _⟩ := fieldF_else (l := nm ++ 58 :: 32 :: vl) (by simp) (head_ne hn hno _)
        rw [e, cutC_of nm _ hno, hk]
        simp [Lib.trimPrefix, Lib.hasPrefix, List.isPrefixOf]
end Go.Proofs.YtlcfpnegpihicaaGreatDoor
