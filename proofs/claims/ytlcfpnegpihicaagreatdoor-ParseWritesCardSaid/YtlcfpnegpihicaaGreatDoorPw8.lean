import Derived.Test.YtlcfpnegpihicaaGreatDoorPw7
import Derived.Maps.OwnOps
import Derived.Test.YtlcfpnegpihicaaGreatDoorPw3
import Derived.Test.YtlcfpnegpihicaaGreatDoorPw6
import Derived.Lib.SplitLaws
namespace Go.Proofs.YtlcfpnegpihicaaGreatDoor
open Go.RowKit Go.Maps

/-! ## What is asked of a value -/
def hasNought (l : List UInt8) : Bool := decide (0 ≤ Lib.indexByte l 0)
theorem ask1_any (b : Nat) (l : List UInt8) (w : World) (hb : Has w b 9 #[.string ⟨l.toArray⟩]) : Calls Tryz.prog 129 #[.pointer (some ⟨b, 0, none⟩)] w fun e w' => e = .returned (.bool (!hasNought l)) ∧ w = w' := by
  have c0 := hb.cell 0
  have hct := Lib.hid (fun W => Tryz.strings_Contains_one ⟨l.toArray⟩ 0 W)
  rw [show (ByteArray.mk l.toArray).data.toList = l from by simp] at hct
  clear hb
  go_enter Tryz.func129, Tryz.ntmps129
  go_wp2_with (go_at_call 128; (with_reducible refine Calls.mono (hct.out _) ?_); rintro e w1 ⟨rfl, rfl⟩)
  go_ret
  exact ⟨rfl, rfl⟩
theorem ask0_any (w : World) : Calls Tryz.prog 108 #[] w fun e w' => e = .returned (.bool true) ∧ w = w' := by
  go_enter Tryz.func108, Tryz.ntmps108
  go_wp2
  go_ret
  exact ⟨rfl, rfl⟩
end Go.Proofs.YtlcfpnegpihicaaGreatDoor

namespace Go.Proofs.YtlcfpnegpihicaaGreatDoor
open Go.RowKit Go.Maps

/-! ## The map of what is asked -/
def anyElem : Value → Option (DataW Value × List MemPlace) := fun v => some (.held v, [])
theorem keysI : Keyed Tryz.prog 102 := int_keyed Tryz.underlying102
def fnV (f b : Nat) : Value := .func (.func f) #[] #[.pointer (some ⟨b, 0, none⟩)]
def AD (b : Nat) : DataW Value := .map [(.int .i64 5, .held (fnV 129 b)), (.int .i64 6, .held (fnV 130 b))]
set_option maxRecDepth 100000 in
theorem asks_any (l : List UInt8) (w : World) : Calls Tryz.prog 107 #[.string ⟨l.toArray⟩] w fun e w' => ∃ m, e = .returned (.map (some m)) ∧ w'.ownsMap Tryz.prog 102 anyElem m 4 (AD w.heap.size) ∧ Has w' w.heap.size 9 #[.string ⟨l.toArray⟩] ∧ Below w.heap.size w w' := by
  have hown0 := World.ownsMap_made (w.alloc (.cells #[.string ⟨l.toArray⟩] 9)) Tryz.prog 102 anyElem
  simp only [World.size_alloc] at hown0
  obtain ⟨w2, hr1, o1, g1⟩ := hown0.update keysI Tryz.underlying194 (by decide) (key := .int .i64 5) (val := .func (.func 129) #[] #[.pointer (some ⟨w.heap.size, 0, none⟩)]) (kl := .int .i64 5) (d := .held (fnV 129 w.heap.size)) (ps := []) (keyOf_int_mk Tryz.underlying102 (by decide)) rfl
  obtain ⟨w3, hr2, o2, g2⟩ := o1.update keysI Tryz.underlying194 (by decide) (key := .int .i64 6) (val := .func (.func 130) #[] #[.pointer (some ⟨w.heap.size, 0, none⟩)]) (kl := .int .i64 6) (d := .held (fnV 130 w.heap.size)) (ps := []) (keyOf_int_mk Tryz.underlying102 (by decide)) rfl
  have kB := (Has.new w 9 #[.string ⟨l.toArray⟩]).alloc (.map #[] 0)
  have o3 := Lib.hid (o2.mono (show 0 + 1 + 1 ≤ 4 by decide))
  have hb : Below w.heap.size w ((w.alloc (.cells #[.string ⟨l.toArray⟩] 9)).alloc (.map #[] 0)) := ((Below.refl _ _).alloc (Nat.le_refl _) _).alloc (by simp) _
  have hb3 := Lib.hid ((hb.grown g1 hb.size (fun g e => by cases e; omega)).grown g2 (hb.grown g1 hb.size (fun g e => by cases e; omega)).size (fun g e => by cases e; omega))
  have kB3 : Has w3 w.heap.size 9 #[.string ⟨l.toArray⟩] := by
    have e1 := g1.block w.heap.size (by simp; omega) (fun e => by injection e with e; omega)
    have e2 := g2.block w.heap.size (by have := g1.size; simp at this; omega) (fun e => by injection e with e; omega)
    exact e2.trans (e1.trans kB)
  have kB3' := Lib.hid kB3
  clear hown0 o1 o2 g1 g2 kB hb kB3
  have hmm := @run_makeMap Tryz.prog
  go_enter Tryz.func107, Tryz.ntmps107
  go_wp2
  go_ret
  exact ⟨_, rfl, o3.out, kB3'.out, hb3.out⟩
end Go.Proofs.YtlcfpnegpihicaaGreatDoor

namespace Go.Proofs.YtlcfpnegpihicaaGreatDoor
open Go.RowKit Go.Maps

/-! ## What is asked of a field of a Kind -/
def askOf (ki : Int) (b : Nat) : Value := if ki = 5 then fnV 129 b else if ki = 6 then fnV 130 b else .func (.func 108) #[] #[]
theorem ad_look (ki : Int) (b : Nat) : (Maps.has (AD b) (.int .i64 ki) = true ∧ (AD b).atKey (.int .i64 ki) (.held .nilFunc) = .held (askOf ki b)) ∨ (Maps.has (AD b) (.int .i64 ki) = false ∧ askOf ki b = .func (.func 108) #[] #[]) := by
  unfold askOf
  by_cases h1 : ki = 5
  · subst h1; left; exact ⟨rfl, rfl⟩
  by_cases h2 : ki = 6
  · subst h2; left; exact ⟨rfl, rfl⟩
  right
  rw [if_neg h1, if_neg h2]
  refine ⟨?_, rfl⟩
  simp [Maps.has, AD, Lit.sameKey]
  exact ⟨fun h => h1 h.symm, fun h => h2 h.symm⟩
theorem zeroFn (w : World) : (zeroValue 23).run Tryz.prog w = .ok .nilFunc w := by kernel_rfl
set_option maxRecDepth 100000 in
theorem foundA_any (m b : Nat) (ki : Int) (w : World) (hw : (Lit.int .i64 ki).wf = true) (hown : w.ownsMap Tryz.prog 102 anyElem m 4 (AD b)) :
    Calls Tryz.prog 106 #[.map (some m), .int .i64 ki, .func (.func 108) #[] #[]] w fun e w' => e = .returned (askOf ki b) ∧ w = w' := by
  have hown' := Lib.hid hown
  clear hown
  rcases ad_look ki b with ⟨h1, h2⟩ | ⟨h1, h2⟩
  · go_enter Tryz.func106, Tryz.ntmps106
    go_wp2_with (at_lookup; refine wpList_lookup_own_ok _ rfl _ _ 194 rfl 102 23 keysI Tryz.underlying194 anyElem (zeroFn _) (.held .nilFunc) [] rfl m 4 _ rfl hown'.out _ _ rfl (keyOf_int_mk Tryz.underlying102 hw) ?_; intro v ps hv; obtain rfl : v = askOf ki b := (by rw [h2] at hv; unfold anyElem at hv; injection hv with hv; injection hv with hv _; injection hv); rw [h1])
    go_ret
    exact ⟨rfl, rfl⟩
  · go_enter Tryz.func106, Tryz.ntmps106
    go_wp2_with (at_lookup; refine wpList_lookup_own_ok _ rfl _ _ 194 rfl 102 23 keysI Tryz.underlying194 anyElem (zeroFn _) (.held .nilFunc) [] rfl m 4 _ rfl hown'.out _ _ rfl (keyOf_int_mk Tryz.underlying102 hw) ?_; intro v ps hv; rw [h1])
    go_ret
    rw [h2]
    exact ⟨rfl, rfl⟩
end Go.Proofs.YtlcfpnegpihicaaGreatDoor

namespace Go.Proofs.YtlcfpnegpihicaaGreatDoor
open Go.RowKit Go.Maps

/-! ## What is asked of a retry's value -/
def digitsOk (l : List UInt8) : Bool := (numR 10 l).2 == 0
theorem ask2_any (b : Nat) (l : List UInt8) (w : World) (hb : Has w b 9 #[.string ⟨l.toArray⟩]) (hl : l.length ≤ 1000000) (hT : Tab w) : Calls Tryz.prog 130 #[.pointer (some ⟨b, 0, none⟩)] w fun e w' => e = .returned (.bool (digitsOk l)) ∧ Below w.heap.size w w' := by
  have c0 := hb.cell 0
  have hct := digitsCall_any ⟨l.toArray⟩ (by show l.toArray.size ≤ _; simp; omega) w hT
  rw [show (ByteArray.mk l.toArray).data.toList = l from by simp] at hct
  have hd : digitsOk l = ((numR 10 l).2 == 0) := rfl
  rw [hd]
  generalize numR 10 l = r at hct
  have hct' := Lib.hid hct
  clear hb hct hd hT
  go_enter Tryz.func130, Tryz.ntmps130
  go_wp2_with (go_at_call 118; (with_reducible refine Calls.mono hct'.out ?_); rintro e w1 ⟨rfl, hb1⟩; simp only [Two])
  go_ret
  exact ⟨rfl, hb1⟩

/-! ## What a line says, by the first colon -/
theorem take_drop_at {l : List UInt8} {k : Nat} (h : l[k]? = some 58) : l = l.take k ++ 58 :: l.drop (k + 1) := by
  obtain ⟨hk, he⟩ := List.getElem?_eq_some_iff.1 h
  have := List.drop_eq_getElem_cons hk
  rw [he] at this
  rw [← this, List.take_append_drop]
theorem fieldF_at {l : List UInt8} {k : Nat} (h1 : l.head? ≠ some 58) (h : l[k]? = some 58) (hn : 58 ∉ l.take k) : fieldF l = ((kindK (l.take k) : Int), l.take k, Lib.trimPrefix (l.drop (k + 1)) [32]) := by
  have hl : l ≠ [] := by rintro rfl; simp at h
  have hc : cutC l = (l.take k, l.drop (k + 1), true) := by
    have := cutC_of (l.take k) (l.drop (k + 1)) hn
    rwa [← take_drop_at h] at this
  have := (fieldF_else hl h1).1
  rw [hc] at this
  exact this
theorem fieldF_no {l : List UInt8} (hl : l ≠ []) (hn : 58 ∉ l) : fieldF l = ((kindK l : Int), l, []) := by
  have h1 : l.head? ≠ some 58 := by
    intro h
    cases l with
    | nil => cases h
    | cons b r => simp only [List.head?_cons, Option.some.injEq] at h; subst h; exact hn (List.mem_cons_self ..)
  have := (fieldF_else hl h1).1
  rw [cutC_none l hn] at this
  exact this
/-- The document's Line. -/
def refLine (f : Int × List UInt8 × List UInt8) : List UInt8 := if f.1 = 2 then 58 :: f.2.2 else if f.2.2 = [] then f.2.1 else f.2.1 ++ 58 :: 32 :: f.2.2
theorem refLine_say {f : Int × List UInt8 × List UInt8} (h : sayF f = true) : refLine f = lineF f := by
  obtain ⟨ki, nm, vl⟩ := f
  unfold refLine lineF betw
  simp only
  by_cases h2 : ki = 2
  · subst h2
    have : nm = [] := of_decide_eq_true h
    subst this
    simp
  · rw [if_neg h2, if_neg h2]
    by_cases hv : vl = []
    · subst hv; simp
    · rw [if_neg hv, if_neg hv]; simp
theorem right_say (f : Int × List UInt8 × List UInt8) : decide (fieldF (refLine f) = f) = sayF f := by
  cases h : sayF f with
  | true => rw [refLine_say h, fieldF_lineF f h]; simp
  | false =>
    refine decide_eq_false fun e => ?_
    have := sayF_fieldF (refLine f)
    rw [e, h] at this
    cases this
def countsF (f : Int × List UInt8 × List UInt8) : Bool := sayF f && (if f.1 = 5 then !hasNought f.2.2 else if f.1 = 6 then digitsOk f.2.2 else true)
def retryF (f : Int × List UInt8 × List UInt8) : Int × Bool := if sayF f = true ∧ f.1 = 6 then ((numR 10 f.2.2).1, digitsOk f.2.2) else (0, false)
theorem step_bad {b c : Int} {r : Int × Int} (h : r.2 ≠ 0 → r.1 = 0) : (step b r c).2 ≠ 0 → (step b r c).1 = 0 := by
  unfold step
  split
  · unfold moreR
    split
    · unfold addR
      split
      · intro e; exact absurd rfl e
      · intro _; rfl
    · intro _; rfl
  · exact h
theorem goesR_bad (b : Int) (l : List UInt8) : (goesR b l).2 ≠ 0 → (goesR b l).1 = 0 := by
  have : ∀ (l : List UInt8) (r : Int × Int), (r.2 ≠ 0 → r.1 = 0) → ((l.foldl (fun r c => step b r (c.toNat : Int)) r).2 ≠ 0 → (l.foldl (fun r c => step b r (c.toNat : Int)) r).1 = 0) := by
    intro l
    induction l with
    | nil => intro r h; exact h
    | cons c l ih => intro r h; exact ih _ (step_bad h)
  exact this l _ (fun e => absurd rfl e)
theorem numR_bad (b : Int) (l : List UInt8) : (numR b l).2 ≠ 0 → (numR b l).1 = 0 := by
  intro h
  unfold numR at h ⊢
  split
  · rename_i hc
    rw [if_pos hc] at h
    exact goesR_bad b l h
  · rfl
theorem ib_no : ∀ (l : List UInt8) (c : UInt8), c ∉ l → Lib.indexByte l c = -1
  | [], _, _ => rfl
  | b :: r, c, h => by
    simp only [List.mem_cons, not_or] at h
    have hb : ¬ b = c := fun e => h.1 e.symm
    simp [Lib.indexByte, hb, ib_no r c h.2]
theorem ib_yes : ∀ (l : List UInt8) (c : UInt8), c ∈ l → 0 ≤ Lib.indexByte l c
  | [], _, h => absurd h (by simp)
  | b :: r, c, h => by
    by_cases hb : b = c
    · simp [Lib.indexByte, hb]
    · have hr : c ∈ r := by
        rcases List.mem_cons.1 h with e | e
        · exact absurd e.symm hb
        · exact e
      have := ib_yes r c hr
      simp only [Lib.indexByte, beq_iff_eq, hb, if_false]
      split <;> omega
theorem hasNought_no {l : List UInt8} (h : 0 ∉ l) : hasNought l = false := by
  unfold hasNought
  rw [ib_no l 0 h]
  rfl
theorem hasNought_yes {l : List UInt8} (h : 0 ∈ l) : hasNought l = true := decide_eq_true (ib_yes l 0 h)
end Go.Proofs.YtlcfpnegpihicaaGreatDoor

namespace Go.Proofs.YtlcfpnegpihicaaGreatDoor
open Go.RowKit

/-! ## The mathematics of events: an event is (id, type, data) -/
abbrev Ev := List UInt8 × List UInt8 × List UInt8
abbrev FdT := Int × List UInt8 × List UInt8
/-- Is a text sound, without the first n of CR, LF and the byte 0? -/
def barL : List UInt8 := [13, 10, 0]
def cleanB (t : List UInt8) (n : Nat) : Bool := soundB t && (barL.take n).all fun b => !t.contains b
def fitsE (e : Ev) : Bool := decide (e.1.length + e.2.1.length + e.2.2.length ≤ 65536)
def rightE (e : Ev) : Bool := fitsE e && (cleanB e.1 3 && (cleanB e.2.1 2 && cleanB e.2.2 1))
theorem cleanB_no {t : List UInt8} {n : Nat} (h : cleanB t n = true) (b : UInt8) (hb : b ∈ barL.take n) : b ∉ t := by
  unfold cleanB at h
  simp only [Bool.and_eq_true, List.all_eq_true] at h
  have := h.2 b hb
  simpa using this
/-! ## What the law makes of lines -/
end Go.Proofs.YtlcfpnegpihicaaGreatDoor
