import Derived.Test.YtlcfpnegpihicaaGreatDoorPk7
import Derived.Maps.OwnOps
import Derived.Test.YtlcfpnegpihicaaGreatDoorPk3
import Derived.Test.YtlcfpnegpihicaaGreatDoorPk6
import Derived.Lib.SplitLaws
namespace Go.Proofs.YtlcfpnegpihicaaGreatDoor
open Go.RowKit Go.Maps

/-! ## What is asked of a value -/
def hasNought (l : List UInt8) : Bool := decide (0 ≤ Lib.indexByte l 0)
theorem ask1_any (b : Nat) (l : List UInt8) (w : World) (hb : Has w b 9 #[.string ⟨l.toArray⟩]) : Calls Tryz.prog 129 #[.pointer (some ⟨b, 0, none⟩)] w fun e w' => e = .returned (.bool (!hasNought l)) ∧ w = w' := by
  have c0 := hb.cell 0
  have hct := Lib.hid (fun W => Tryz.strings_Contains_one ⟨l.toArray⟩ 0 W)
  rw [show (ByteArray.mk l.toArray).data.toList = l from by simp] at hct
  clear hb
  go_enter Tryz.func129, Tryz.ntmps129
  go_wp2_with (go_at_call 128; (with_reducible refine Calls.mono (hct.out _) ?_); rintro e w1 ⟨rfl, rfl⟩)
  go_ret
  exact ⟨rfl, rfl⟩
theorem ask0_any (w : World) : Calls Tryz.prog 108 #[] w fun e w' => e = .returned (.bool true) ∧ w = w' := by
  go_enter Tryz.func108, Tryz.ntmps108
  go_wp2
  go_ret
  exact ⟨rfl, rfl⟩
end Go.Proofs.YtlcfpnegpihicaaGreatDoor

namespace Go.Proofs.YtlcfpnegpihicaaGreatDoor
open Go.RowKit Go.Maps

/-! ## The map of what is asked -/
def anyElem : Value → Option (DataW Value × List MemPlace) := fun v => some (.held v, [])
theorem keysI : Keyed Tryz.prog 102 := int_keyed Tryz.underlying102
def fnV (f b : Nat) : Value := .func (.func f) #[] #[.pointer (some ⟨b, 0, none⟩)]
def AD (b : Nat) : DataW Value := .map [(.int .i64 5, .held (fnV 129 b)), (.int .i64 6, .held (fnV 130 b))]
set_option maxRecDepth 100000 in
theorem asks_any (l : List UInt8) (w : World) : Calls Tryz.prog 107 #[.string ⟨l.toArray⟩] w fun e w' => ∃ m, e = .returned (.map (some m)) ∧ w'.ownsMap Tryz.prog 102 anyElem m 4 (AD w.heap.size) ∧ Has w' w.heap.size 9 #[.string ⟨l.toArray⟩] ∧ Below w.heap.size w w' := by
  have hown0 := World.ownsMap_made (w.alloc (.cells #[.string ⟨l.toArray⟩] 9)) Tryz.prog 102 anyElem
  simp only [World.size_alloc] at hown0
  obtain ⟨w2, hr1, o1, g1⟩ := hown0.update keysI Tryz.underlying194 (by decide) (key := .int .i64 5) (val := .func (.func 129) #[] #[.pointer (some ⟨w.heap.size, 0, none⟩)]) (kl := .int .i64 5) (d := .held (fnV 129 w.heap.size)) (ps := []) (keyOf_int_mk Tryz.underlying102 (by decide)) rfl
  obtain ⟨w3, hr2, o2, g2⟩ := o1.update keysI Tryz.underlying194 (by decide) (key := .int .i64 6) (val := .func (.func 130) #[] #[.pointer (some ⟨w.heap.size, 0, none⟩)]) (kl := .int .i64 6) (d := .held (fnV 130 w.heap.size)) (ps := []) (keyOf_int_mk Tryz.underlying102 (by decide)) rfl
  have kB := (Has.new w 9 #[.string ⟨l.toArray⟩]).alloc (.map #[] 0)
  have o3 := Lib.hid (o2.mono (show 0 + 1 + 1 ≤ 4 by decide))
  have hb : Below w.heap.size w ((w.alloc (.cells #[.string ⟨l.toArray⟩] 9)).alloc (.map #[] 0)) := ((Below.refl _ _).alloc (Nat.le_refl _) _).alloc (by simp) _
  have hb3 := Lib.hid ((hb.grown g1 hb.size (fun g e => by cases e; omega)).grown g2 (hb.grown g1 hb.size (fun g e => by cases e; omega)).size (fun g e => by cases e; omega))
  have kB3 : Has w3 w.heap.size 9 #[.string ⟨l.toArray⟩] := by
    have e1 := g1.block w.heap.size (by simp; omega) (fun e => by injection e with e; omega)
    have e2 := g2.block w.heap.size (by have := g1.size; simp at this; omega) (fun e => by injection e with e; omega)
    exact e2.trans (e1.trans kB)
  have kB3' := Lib.hid kB3
  clear hown0 o1 o2 g1 g2 kB hb kB3
  have hmm := @run_makeMap Tryz.prog
  go_enter Tryz.func107, Tryz.ntmps107
  go_wp2
  go_ret
  exact ⟨_, rfl, o3.out, kB3'.out, hb3.out⟩
end Go.Proofs.YtlcfpnegpihicaaGreatDoor

namespace Go.Proofs.YtlcfpnegpihicaaGreatDoor
open Go.RowKit Go.Maps

/-! ## What is asked of a field of a Kind -/
def askOf (ki : Int) (b : Nat) : Value := if ki = 5 then fnV 129 b else if ki = 6 then fnV 130 b else .func (.func 108) #[] #[]
theorem ad_look (ki : Int) (b : Nat) : (Maps.has (AD b) (.int .i64 ki) = true ∧ (AD b).atKey (.int .i64 ki) (.held .nilFunc) = .held (askOf ki b)) ∨ (Maps.has (AD b) (.int .i64 ki) = false ∧ askOf ki b = .func (.func 108) #[] #[]) := by
  unfold askOf
  by_cases h1 : ki = 5
  · subst h1; left; exact ⟨rfl, rfl⟩
  by_cases h2 : ki = 6
  · subst h2; left; exact ⟨rfl, rfl⟩
  right
  rw [if_neg h1, if_neg h2]
  refine ⟨?_, rfl⟩
  simp [Maps.has, AD, Lit.sameKey]
  exact ⟨fun h => h1 h.symm, fun h => h2 h.symm⟩
theorem zeroFn (w : World) : (zeroValue 23).run Tryz.prog w = .ok .nilFunc w := by kernel_rfl
set_option maxRecDepth 100000 in
theorem foundA_any (m b : Nat) (ki : Int) (w : World) (hw : (Lit.int .i64 ki).wf = true) (hown : w.ownsMap Tryz.prog 102 anyElem m 4 (AD b)) :
    Calls Tryz.prog 106 #[.map (some m), .int .i64 ki, .func (.func 108) #[] #[]] w fun e w' => e = .returned (askOf ki b) ∧ w = w' := by
  have hown' := Lib.hid hown
  clear hown
  rcases ad_look ki b with ⟨h1, h2⟩ | ⟨h1, h2⟩
  · go_enter Tryz.func106, Tryz.ntmps106
    go_wp2_with (at_lookup; refine wpList_lookup_own_ok _ rfl _ _ 194 rfl 102 23 keysI Tryz.underlying194 anyElem (zeroFn _) (.held .nilFunc) [] rfl m 4 _ rfl hown'.out _ _ rfl (keyOf_int_mk Tryz.underlying102 hw) ?_; intro v ps hv; obtain rfl : v = askOf ki b := (by rw [h2] at hv; unfold anyElem at hv; injection hv with hv; injection hv with hv _; injection hv); rw [h1])
    go_ret
    exact ⟨rfl, rfl⟩
  · go_enter Tryz.func106, Tryz.ntmps106
    go_wp2_with (at_lookup; refine wpList_lookup_own_ok _ rfl _ _ 194 rfl 102 23 keysI Tryz.underlying194 anyElem (zeroFn _) (.held .nilFunc) [] rfl m 4 _ rfl hown'.out _ _ rfl (keyOf_int_mk Tryz.underlying102 hw) ?_; intro v ps hv; rw [h1])
    go_ret
    rw [h2]
    exact ⟨rfl, rfl⟩
end Go.Proofs.YtlcfpnegpihicaaGreatDoor

namespace Go.Proofs.YtlcfpnegpihicaaGreatDoor
open Go.RowKit Go.Maps

/-! ## What is asked of a retry's value -/
def digitsOk (l : List UInt8) : Bool := (numR 10 l).2 == 0
theorem ask2_any (b : Nat) (l : List UInt8) (w : World) (hb : Has w b 9 #[.string ⟨l.toArray⟩]) (hl : l.length ≤ 1000000) (hT : Tab w) : Calls Tryz.prog 130 #[.pointer (some ⟨b, 0, none⟩)] w fun e w' => e = .returned (.bool (digitsOk l)) ∧ Below w.heap.size w w' := by
  have c0 := hb.cell 0
  have hct := digitsCall_any ⟨l.toArray⟩ (by show l.toArray.size ≤ _; simp; omega) w hT
  rw [show (ByteArray.mk l.toArray).data.toList = l from by simp] at hct
  have hd : digitsOk l = ((numR 10 l).2 == 0) := rfl
  rw [hd]
  generalize numR 10 l = r at hct
  have hct' := Lib.hid hct
  clear hb hct hd hT
  go_enter Tryz.func130, Tryz.ntmps130
  go_wp2_with (go_at_call 118; (with_reducible refine Calls.mono hct'.out ?_); rintro e w1 ⟨rfl, hb1⟩; simp only [Two])
  go_ret
  exact ⟨rfl, hb1⟩

/-! ## What a line says, by the first colon -/
theorem take_drop_at {l : List UInt8} {k : Nat} (h : l[k]? = some 58) : l = l.take k ++ 58 :: l.drop (k + 1) := by
  obtain ⟨hk, he⟩ := List.getElem?_eq_some_iff.1 h
  have := List.drop_eq_getElem_cons hk
  rw [he] at this
  rw [← this, List.take_append_drop]
theorem fieldF_at {l : List UInt8} {k : Nat} (h1 : l.head? ≠ some 58) (h : l[k]? = some 58) (hn : 58 ∉ l.take k) : fieldF l = ((kindK (l.take k) : Int), l.take k, Lib.trimPrefix (l.drop (k + 1)) [32]) := by
  have hl : l ≠ [] := by rintro rfl; simp at h
  have hc : cutC l = (l.take k, l.drop (k + 1), true) := by
    have := cutC_of (l.take k) (l.drop (k + 1)) hn
    rwa [← take_drop_at h] at this
  have := (fieldF_else hl h1).1
  rw [hc] at this
  exact this
theorem fieldF_no {l : List UInt8} (hl : l ≠ []) (hn : 58 ∉ l) : fieldF l = ((kindK l : Int), l, []) := by
  have h1 : l.head? ≠ some 58 := by
    intro h
    cases l with
    | nil => cases h
    | cons b r => simp only [List.head?_cons, Option.some.injEq] at h; subst h; exact hn (List.mem_cons_self ..)
  have := (fieldF_else hl h1).1
  rw [cutC_none l hn] at this
  exact this
/-- The document's Line. -/
def refLine (f : Int × List UInt8 × List UInt8) : List UInt8 := if f.1 = 2 then 58 :: f.2.2 else if f.2.2 = [] then f.2.1 else f.2.1 ++ 58 :: 32 :: f.2.2
theorem refLine_say {f : Int × List UInt8 × List UInt8} (h : sayF f = true) : refLine f = lineF f := by
  obtain ⟨ki, nm, vl⟩ := f
  unfold refLine lineF betw
  simp only
  by_cases h2 : ki = 2
  · subst h2
    have : nm = [] := of_decide_eq_true h
    subst this
    simp
  · rw [if_neg h2, if_neg h2]
    by_cases hv : vl = []
    · subst hv; simp
    · rw [if_neg hv, if_neg hv]; simp
theorem right_say (f : Int × List UInt8 × List UInt8) : decide (fieldF (refLine f) = f) = sayF f := by
  cases h : sayF f with
  | true => rw [refLine_say h, fieldF_lineF f h]; simp
  | false =>
    refine decide_eq_false fun e => ?_
    have := sayF_fieldF (refLine f)
    rw [e, h] at this
    cases this
def countsF (f : Int × List UInt8 × List UInt8) : Bool := sayF f && (if f.1 = 5 then !hasNought f.2.2 else if f.1 = 6 then digitsOk f.2.2 else true)
def retryF (f : Int × List UInt8 × List UInt8) : Int × Bool := if sayF f = true ∧ f.1 = 6 then ((numR 10 f.2.2).1, digitsOk f.2.2) else (0, false)
theorem step_bad {b c : Int} {r : Int × Int} (h : r.2 ≠ 0 → r.1 = 0) : (step b r c).2 ≠ 0 → (step b r c).1 = 0 := by
  unfold step
  split
  · unfold moreR
    split
    · unfold addR
      split
      · intro e; exact absurd rfl e
      · intro _; rfl
    · intro _; rfl
  · exact h
theorem goesR_bad (b : Int) (l : List UInt8) : (goesR b l).2 ≠ 0 → (goesR b l).1 = 0 := by
  have : ∀ (l : List UInt8) (r : Int × Int), (r.2 ≠ 0 → r.1 = 0) → ((l.foldl (fun r c => step b r (c.toNat : Int)) r).2 ≠ 0 → (l.foldl (fun r c => step b r (c.toNat : Int)) r).1 = 0) := by
    intro l
    induction l with
    | nil => intro r h; exact h
    | cons c l ih => intro r h; exact ih _ (step_bad h)
  exact this l _ (fun e => absurd rfl e)
theorem numR_bad (b : Int) (l : List UInt8) : (numR b l).2 ≠ 0 → (numR b l).1 = 0 := by
  intro h
  unfold numR at h ⊢
  split
  · rename_i hc
    rw [if_pos hc] at h
    exact goesR_bad b l h
  · rfl
theorem ib_no : ∀ (l : List UInt8) (c : UInt8), c ∉ l → Lib.indexByte l c = -1
  | [], _, _ => rfl
  | b :: r, c, h => by
    simp only [List.mem_cons, not_or] at h
    have hb : ¬ b = c := fun e => h.1 e.symm
    simp [Lib.indexByte, hb, ib_no r c h.2]
theorem ib_yes : ∀ (l : List UInt8) (c : UInt8), c ∈ l → 0 ≤ Lib.indexByte l c
  | [], _, h => absurd h (by simp)
  | b :: r, c, h => by
    by_cases hb : b = c
    · simp [Lib.indexByte, hb]
    · have hr : c ∈ r := by
        rcases List.mem_cons.1 h with e | e
        · exact absurd e.symm hb
        · exact e
      have := ib_yes r c hr
      simp only [Lib.indexByte, beq_iff_eq, hb, if_false]
      split <;> omega
theorem hasNought_no {l : List UInt8} (h : 0 ∉ l) : hasNought l = false := by
  unfold hasNought
  rw [ib_no l 0 h]
  rfl
theorem hasNought_yes {l : List UInt8} (h : 0 ∈ l) : hasNought l = true := decide_eq_true (ib_yes l 0 h)
end Go.Proofs.YtlcfpnegpihicaaGreatDoor

namespace Go.Proofs.YtlcfpnegpihicaaGreatDoor
open Go.RowKit

/-! ## The mathematics of events: an event is (id, type, data) -/
abbrev Ev := List UInt8 × List UInt8 × List UInt8
abbrev FdT := Int × List UInt8 × List UInt8
/-- What stands between LFs. -/
def partsL : List UInt8 → List (List UInt8)
  | [] => [[]]
  | b :: r => if b = 10 then [] :: partsL r else match partsL r with
    | [] => [[b]]
    | p :: ps => (b :: p) :: ps
theorem partsL_ne (d : List UInt8) : partsL d ≠ [] := by
  cases d with
  | nil => simp [partsL]
  | cons b r =>
    unfold partsL
    split
    · simp
    · split <;> simp
def joinL : List (List UInt8) → List UInt8
  | [] => []
  | [p] => p
  | p :: q :: r => p ++ 10 :: joinL (q :: r)
theorem joinL_cons (p : List UInt8) (l : List (List UInt8)) (h : l ≠ []) : joinL (p :: l) = p ++ 10 :: joinL l := by
  cases l with
  | nil => exact absurd rfl h
  | cons q r => rfl
theorem joinL_parts : ∀ d : List UInt8, joinL (partsL d) = d
  | [] => rfl
  | b :: r => by
    have ih := joinL_parts r
    unfold partsL
    split
    · rename_i hb
      rw [joinL_cons _ _ (partsL_ne r), ih, hb]; rfl
    · cases hp : partsL r with
      | nil => exact absurd hp (partsL_ne r)
      | cons p ps =>
        rw [hp] at ih
        simp only
        cases ps with
        | nil => simpa [joinL] using ih
        | cons q t => rw [joinL_cons _ _ (by simp)] at ih ⊢; rw [← ih]; rfl
theorem partsL_no : ∀ d : List UInt8, ∀ p ∈ partsL d, 10 ∉ p
  | [], p, h => by simp [partsL] at h; subst h; simp
  | b :: r, p, h => by
    have ih := partsL_no r
    unfold partsL at h
    split at h
    · rcases List.mem_cons.1 h with h | h
      · subst h; simp
      · exact ih p h
    · rename_i hb
      cases hp : partsL r with
      | nil => exact absurd hp (partsL_ne r)
      | cons q ps =>
        rw [hp] at h ih
        simp only [List.mem_cons] at h
        rcases h with h | h
        · subst h
          simp only [List.mem_cons, not_or]
          exact ⟨fun e => hb e.symm, ih q (by simp)⟩
        · exact ih p (by simp [h])
theorem partsL_len : ∀ (d p : List UInt8), p ∈ partsL d → p.length ≤ d.length
  | [], p, h => by simp [partsL] at h; subst h; simp
  | b :: r, p, h => by
    have ih := partsL_len r
    unfold partsL at h
    split at h
    · rcases List.mem_cons.1 h with h | h
      · subst h; simp
      · have := ih p h; simp; omega
    · cases hp : partsL r with
      | nil => exact absurd hp (partsL_ne r)
      | cons q ps =>
        rw [hp] at h ih
        simp only [List.mem_cons] at h
        rcases h with h | h
        · subst h; have := ih q (by simp); simp; omega
        · have := ih p (by simp [h]); simp; omega
theorem partsL_many : ∀ d : List UInt8, (partsL d).length ≤ d.length + 1
  | [] => by simp [partsL]
  | b :: r => by
    have ih := partsL_many r
    unfold partsL
    split
    · simp; omega
    · cases hp : partsL r with
      | nil => exact absurd hp (partsL_ne r)
      | cons q ps => rw [hp] at ih; simp at ih ⊢; omega
def idN : List UInt8 := [105, 100]
def eventN : List UInt8 := [101, 118, 101, 110, 116]
def dataN : List UInt8 := [100, 97, 116, 97]
def oneF (k : Int) (n t : List UInt8) : List FdT := if t = [] then [] else [(k, n, t)]
def dataF (d : List UInt8) : List FdT := (partsL d).map fun p => (3, dataN, p)
/-- What an event's lines say, but for the last one. -/
def fieldsE (e : Ev) : List FdT := oneF 5 idN e.1 ++ (oneF 4 eventN e.2.1 ++ dataF e.2.2)
def linesE (e : Ev) : List (List UInt8) := (fieldsE e).map lineF ++ [[]]
def endsL (l : List (List UInt8)) : List UInt8 := l.flatMap (· ++ [10])
def bytesE (e : Ev) : List UInt8 := endsL (linesE e)
/-- Is a text sound, without the first n of CR, LF and the byte 0? -/
def barL : List UInt8 := [13, 10, 0]
def cleanB (t : List UInt8) (n : Nat) : Bool := soundB t && (barL.take n).all fun b => !t.contains b
def fitsE (e : Ev) : Bool := decide (e.1.length + e.2.1.length + e.2.2.length ≤ 65536)
def rightE (e : Ev) : Bool := fitsE e && (cleanB e.1 3 && (cleanB e.2.1 2 && cleanB e.2.2 1))
theorem cleanB_no {t : List UInt8} {n : Nat} (h : cleanB t n = true) (b : UInt8) (hb : b ∈ barL.take n) : b ∉ t := by
  unfold cleanB at h
  simp only [Bool.and_eq_true, List.all_eq_true] at h
  have := h.2 b hb
  simpa using this
theorem rightE_of {e : Ev} (h : rightE e = true) : fitsE e = true ∧ cleanB e.1 3 = true ∧ cleanB e.2.1 2 = true ∧ cleanB e.2.2 1 = true := by
  unfold rightE at h
  simp only [Bool.and_eq_true] at h
  exact ⟨h.1, h.2.1, h.2.2.1, h.2.2.2⟩
theorem fields_say (e : Ev) : ∀ f ∈ fieldsE e, sayF f = true := by
  intro f hf
  unfold fieldsE at hf
  rcases List.mem_append.1 hf with h | h
  · unfold oneF at h
    split at h
    · simp at h
    · obtain rfl := List.mem_singleton.1 h
      rfl
  · rcases List.mem_append.1 h with h | h
    · unfold oneF at h
      split at h
      · simp at h
      · obtain rfl := List.mem_singleton.1 h
        rfl
    · unfold dataF at h
      obtain ⟨p, _, rfl⟩ := List.mem_map.1 h
      rfl
theorem fields_back (e : Ev) : (linesE e).map fieldF = fieldsE e ++ [(1, [], [])] := by
  unfold linesE
  rw [List.map_append, List.map_map]
  congr 1
  conv => rhs; rw [← List.map_id (fieldsE e)]
  exact List.map_congr_left fun f hf => fieldF_lineF f (fields_say e f hf)
theorem betw_no (f : FdT) : 10 ∉ betw f := by
  unfold betw
  (repeat' split) <;> simp
theorem lines_no {e : Ev} (h1 : 10 ∉ e.1) (h2 : 10 ∉ e.2.1) : ∀ l ∈ linesE e, 10 ∉ l := by
  intro l hl
  unfold linesE at hl
  rcases List.mem_append.1 hl with hl | hl
  · obtain ⟨f, hf, rfl⟩ := List.mem_map.1 hl
    have key : 10 ∉ f.2.1 ∧ 10 ∉ f.2.2 := by
      unfold fieldsE at hf
      rcases List.mem_append.1 hf with h | h
      · unfold oneF at h
        split at h
        · simp at h
        · obtain rfl := List.mem_singleton.1 h
          exact ⟨(show 10 ∉ idN by decide), h1⟩
      · rcases List.mem_append.1 h with h | h
        · unfold oneF at h
          split at h
          · simp at h
          · obtain rfl := List.mem_singleton.1 h
            exact ⟨(show 10 ∉ eventN by decide), h2⟩
        · unfold dataF at h
          obtain ⟨p, hp, rfl⟩ := List.mem_map.1 h
          exact ⟨(show 10 ∉ dataN by decide), partsL_no _ p hp⟩
    unfold lineF
    simp only [List.mem_append, not_or]
    exact ⟨⟨key.1, betw_no f⟩, key.2⟩
  · obtain rfl := List.mem_singleton.1 hl
    simp
theorem ends_inj : ∀ a b : List (List UInt8), (∀ l ∈ a, 10 ∉ l) → (∀ l ∈ b, 10 ∉ l) → endsL a = endsL b → a = b
  | [], [], _, _, _ => rfl
  | [], y :: b, _, _, h => by simp [endsL] at h
  | x :: a, [], _, _, h => by simp [endsL] at h
  | x :: a, y :: b, ha, hb, h => by
    have hx := ha x (by simp)
    have hy := hb y (by simp)
    have h' : x ++ 10 :: endsL a = y ++ 10 :: endsL b := by simpa [endsL] using h
    have key : ∀ (x y r t : List UInt8), 10 ∉ x → 10 ∉ y → x ++ 10 :: r = y ++ 10 :: t → x = y ∧ r = t := by
      intro x
      induction x with
      | nil =>
        intro y r t _ hy e
        cases y with
        | nil => exact ⟨rfl, by simpa using e⟩
        | cons c y => simp at e; exact absurd e.1.symm (by simp at hy; exact fun e' => hy.1 e'.symm)
      | cons c x ih =>
        intro y r t hx hy e
        cases y with
        | nil => simp at e; exact absurd e.1 (by simp at hx; exact fun e' => hx.1 e'.symm)
        | cons d y =>
          simp at e hx hy
          obtain ⟨h1, h2⟩ := ih y r t hx.2 hy.2 e.2
          exact ⟨by rw [e.1, h1], h2⟩
    obtain ⟨h1, h2⟩ := key x y _ _ hx hy h'
    rw [h1, ends_inj a b (fun l hl => ha l (by simp [hl])) (fun l hl => hb l (by simp [hl])) h2]

/-! ## What the law makes of lines -/
abbrev EhS := List UInt8 × List UInt8 × List UInt8 × Nat × Nat
def ehStep (s : EhS) (f : FdT) : EhS :=
  if f.1 = 5 then (f.2.2, s.2) else if f.1 = 4 then (s.1, f.2.2, s.2.2)
  else if f.1 = 3 then (s.1, s.2.1, (if 0 < s.2.2.2.1 then s.2.2.1 ++ [10] else s.2.2.1) ++ f.2.2, s.2.2.2.1 + 1, s.2.2.2.2)
  else (s.1, s.2.1, s.2.2.1, s.2.2.2.1, s.2.2.2.2 + 1)
def ehOf (l : List FdT) : EhS := l.foldl ehStep ([], [], [], 0, 0)
theorem ehOf_snoc (l : List FdT) (f : FdT) : ehOf (l ++ [f]) = ehStep (ehOf l) f := by unfold ehOf; rw [List.foldl_append]; rfl
theorem eh_data : ∀ (ps : List (List UInt8)) (i t d : List UInt8) (n k : Nat), 0 < n → (ps.map fun p => ((3 : Int), dataN, p)).foldl ehStep (i, t, d, n, k) = (i, t, d ++ ps.flatMap (10 :: ·), n + ps.length, k)
  | [], i, t, d, n, k, _ => by simp
  | p :: ps, i, t, d, n, k, h => by
    rw [List.map_cons, List.foldl_cons]
    have : ehStep (i, t, d, n, k) (3, dataN, p) = (i, t, d ++ 10 :: p, n + 1, k) := by
      unfold ehStep
      simp [h]
    rw [this, eh_data ps i t _ (n + 1) k (by omega)]
    simp; omega
theorem joinL_flat (p : List UInt8) : ∀ ps : List (List UInt8), joinL (p :: ps) = p ++ ps.flatMap (10 :: ·)
  | [] => by simp [joinL]
  | q :: r => by
    rw [joinL_cons _ _ (by simp), joinL_flat q r]
    simp
theorem eh_all (e : Ev) : ehOf (fieldsE e ++ [(1, [], [])]) = (e.1, e.2.1, e.2.2, (partsL e.2.2).length, 1) := by
  obtain ⟨i, t, d⟩ := e
  rw [ehOf_snoc]
  have h1 : ehOf (fieldsE (i, t, d)) = (i, t, d, (partsL d).length, 0) := by
    unfold ehOf fieldsE
    rw [List.foldl_append, List.foldl_append]
    have hi : (oneF 5 idN i).foldl ehStep ([], [], [], 0, 0) = (i, [], [], 0, 0) := by
      unfold oneF
      split
      · rename_i h; subst h; rfl
      · rfl
    have ht : (oneF 4 eventN t).foldl ehStep (i, [], [], 0, 0) = (i, t, [], 0, 0) := by
      unfold oneF
      split
      · rename_i h; subst h; rfl
      · rfl
    simp only
    rw [hi, ht]
    unfold dataF
    have hj := joinL_parts d
    cases hp : partsL d with
    | nil => exact absurd hp (partsL_ne d)
    | cons p ps =>
      rw [hp, joinL_flat] at hj
      rw [List.map_cons, List.foldl_cons]
      have : ehStep (i, t, [], 0, 0) (3, dataN, p) = (i, t, p, 1, 0) := by
        unfold ehStep
        simp
      rw [this, eh_data ps i t p 1 0 (by omega), hj]
      simp; omega
  rw [h1]
  rfl
/-- No two events have the same bytes. -/
theorem bytes_inj {x y : Ev} (hx : rightE x = true) (hy : rightE y = true) : (bytesE x = bytesE y) ↔ (x = y) := by
  constructor
  · intro h
    obtain ⟨_, a1, a2, _⟩ := rightE_of hx
    obtain ⟨_, b1, b2, _⟩ := rightE_of hy
    have hl := ends_inj _ _ (lines_no (cleanB_no a1 10 (by decide)) (cleanB_no a2 10 (by decide))) (lines_no (cleanB_no b1 10 (by decide)) (cleanB_no b2 10 (by decide))) h
    have hf := congrArg (List.map fieldF) hl
    rw [fields_back, fields_back] at hf
    have he := congrArg ehOf hf
    rw [eh_all, eh_all] at he
    simp only [Prod.mk.injEq] at he
    exact Prod.ext he.1 (Prod.ext he.2.1 he.2.2.1)
  · intro h; rw [h]
end Go.Proofs.YtlcfpnegpihicaaGreatDoor
