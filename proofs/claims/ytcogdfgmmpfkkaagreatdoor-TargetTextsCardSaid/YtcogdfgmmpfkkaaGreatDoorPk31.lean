import Derived.Test.YtcogdfgmmpfkkaaGreatDoorPk28
import Derived.Test.YtcogdfgmmpfkkaaGreatDoorPk29
import Derived.Test.YtcogdfgmmpfkkaaGreatDoorPk30
import Derived.Test.YtcogdfgmmpfkkaaGreatDoorPk5
namespace Go.Proofs.YtcogdfgmmpfkkaaGreatDoor
open Go.RowKit
attribute [local go_sem] Oper.semAt_some

/-! ## What the laws take of the program; the chapter's rows -/
def textV (t : TgL) : Value := if rightTg t = true then .tuple #[.string ⟨(textTg t).toArray⟩, .int .i64 0] else .tuple #[.string ⟨#[]⟩, .int .i64 2]
def TextR (t : TgL) (w : World) (e : Ending) (w' : World) : Prop := e = .returned (textV t) ∧ Below w.heap.size w w'
/-- What the first pair of a key has. -/
def getQ (key : List UInt8) : List PairL → Option (List UInt8)
  | [] => none
  | q :: r => if q.1 = key then some q.2 else getQ key r
def getV (o : Option (List UInt8)) : Value := match o with
  | some v => .tuple #[.string ⟨v.toArray⟩, .bool true]
  | none => .tuple #[.string ⟨#[]⟩, .bool false]
/-- What a sequence of pairs tells: the pair of a place. -/
def encQ (qs : List PairL) (x : Nat) : Array Value := #[.string ⟨(qs.getD x ([], [])).1.toArray⟩, .string ⟨(qs.getD x ([], [])).2.toArray⟩]
/-- An iterator over pairs, made in the world w9. -/
structure ItQ (w9 : World) (gf : FuncId) (lb : Array Value) (qs : List PairL) : Prop where
  enter : ∀ args w, (callFunc gf args).run Tryz.prog w = .ok (.enter gf args) w
  seq : ∀ (W : World) (S : Nat → Prop), Below w9.heap.size w9 W → (∀ k, S k → w9.heap.size ≤ k ∧ k < W.heap.size) →
    SeqOwn 5 Tryz.prog gf lb (encQ qs) (KeptC S) (fun ys => ys = List.range qs.length) (fun pre => ∃ j, j < qs.length ∧ pre = List.range (j + 1)) qs.length W
/-- The program's calls, each by what it answers. -/
structure TgProg : Prop where
  parse : ∀ (s : List UInt8) (w : World), TabT w → s.length ≤ 500000 → Calls Tryz.prog 7 #[.string ⟨s.toArray⟩] w (ParseR (parseTg s) w)
  decode : ∀ (plus : Bool) (s : List UInt8) (w : World), TabT w → s.length ≤ 50000 → Calls Tryz.prog 11 #[.string ⟨s.toArray⟩, .bool plus] w (DecR (decL plus s) w)
  encode : ∀ (s : List UInt8) (w : World), TabT w → s.length ≤ 50000 → Calls Tryz.prog 13 #[.string ⟨s.toArray⟩] w (StrR (encL s) w)
  text : ∀ (A1 A2 : Option Addr) (c1 c2 : Nat) (t : TgL) (w : World), TabT w → FewT t → Txs w A1 t.1 → Prs w A2 t.2 → Calls Tryz.prog 16 #[.agg #[.slice A1 t.1.length c1, .slice A2 t.2.length c2]] w (TextR t w)
  path : ∀ (A1 A2 : Option Addr) (c1 c2 : Nat) (t : TgL) (w : World), TabT w → FewT t → Txs w A1 t.1 → Prs w A2 t.2 → Calls Tryz.prog 19 #[.agg #[.slice A1 t.1.length c1, .slice A2 t.2.length c2]] w (StrR (pathP t.1) w)
  same : ∀ (A1 A2 B1 B2 : Option Addr) (c1 c2 d1 d2 : Nat) (t u : TgL) (w : World), TabT w → FewT t → FewT u → Txs w A1 t.1 → Prs w A2 t.2 → Txs w B1 u.1 → Prs w B2 u.2 →
    Calls Tryz.prog 21 #[.agg #[.slice A1 t.1.length c1, .slice A2 t.2.length c2], .agg #[.slice B1 u.1.length d1, .slice B2 u.2.length d2]] w (BoolR (decide (t = u)) w)
  get : ∀ (A1 A2 : Option Addr) (c1 c2 : Nat) (t : TgL) (key : List UInt8) (w : World), TabT w → FewT t → key.length ≤ 1000 → Txs w A1 t.1 → Prs w A2 t.2 →
    Calls Tryz.prog 22 #[.agg #[.slice A1 t.1.length c1, .slice A2 t.2.length c2], .string ⟨key.toArray⟩] w fun e w' => e = .returned (getV (getQ key t.2)) ∧ Below w.heap.size w w'
  pairs : ∀ (A1 A2 : Option Addr) (c1 c2 : Nat) (t : TgL) (w : World), TabT w → FewT t → Txs w A1 t.1 → Prs w A2 t.2 →
    Calls Tryz.prog 23 #[.agg #[.slice A1 t.1.length c1, .slice A2 t.2.length c2]] w fun e w' => (∃ gf lb, e = .returned (.func (.func gf) #[] lb) ∧ ItQ w' gf lb t.2) ∧ Below w.heap.size w w'
theorem Txs.of_has {W : World} {g : Nat} {ls : List (List UInt8)} (h : Has W g 9 (strsC ls).toArray) : Txs W (some ⟨g, 0, none⟩) ls := fun _ => ⟨g, 0, rfl, h.lt, fun i x hx => by
  rw [Nat.zero_add, h.cell, List.getElem?_toArray]
  unfold strsC
  rw [List.getElem?_map, hx]; rfl⟩
theorem Prs.of_has {W : World} {g : Nat} {qs : List PairL} (h : Has W g 46 (prsC qs).toArray) : Prs W (some ⟨g, 0, none⟩) qs := fun _ => ⟨g, 0, rfl, h.lt, fun i x hx => by
  obtain ⟨h1, h2⟩ := prsC_get qs i x hx
  rw [Nat.zero_add, h.cell, h.cell, List.getElem?_toArray, List.getElem?_toArray]
  exact ⟨h1, h2⟩⟩
theorem Prs.nil (W : World) (A : Option Addr) : Prs W A [] := fun h => absurd h (by simp)
theorem Txs.nil (W : World) (A : Option Addr) : Txs W A [] := fun h => absurd h (by simp)
def wkT1 : TgL := ([[97], [98, 32, 99]], [([120], [49]), ([121], []), ([122], [97, 32, 98])])
def wkBad : List (List UInt8) := [[97], [47, 46, 46], [47, 37, 50, 101, 37, 50, 101], [47, 97, 37, 50], [47, 35]]
theorem wk_bad : ∀ y ∈ wkBad, parseTg y = none ∧ y.length ≤ 50000 := by decide
theorem wk_few1 : FewT wkT1 := ⟨by decide, by decide, by decide, by decide⟩
theorem wk_few2 : FewT ([[]], []) := ⟨by decide, by decide, by decide, by decide⟩
theorem wk_few3 : FewT ([[97, 47, 98]], []) := ⟨by decide, by decide, by decide, by decide⟩
theorem wk_few4 : FewT ([[98, 32, 99]], [([195, 169], [49])]) := ⟨by decide, by decide, by decide, by decide⟩
theorem wk_p1 (hP : TgProg) (w : World) (hT : TabT w) : Calls Tryz.prog 7 #[.string ⟨#[47, 97, 47, 98, 37, 50, 48, 99, 63, 120, 61, 49, 38, 121, 38, 38, 122, 61, 97, 43, 98]⟩] w fun e w' => (∃ A1 c1 A2 c2, e = .returned (.tuple #[.agg #[.slice A1 2 c1, .slice A2 3 c2], .int .i64 0]) ∧ Txs w' A1 wkT1.1 ∧ Prs w' A2 wkT1.2) ∧ Below w.heap.size w w' := by
  refine (hP.parse [47, 97, 47, 98, 37, 50, 48, 99, 63, 120, 61, 49, 38, 121, 38, 38, 122, 61, 97, 43, 98] w hT (by decide)).mono ?_
  rw [show parseTg [47, 97, 47, 98, 37, 50, 48, 99, 63, 120, 61, 49, 38, 121, 38, 38, 122, 61, 97, 43, 98] = some wkT1 by decide]
  rintro e w' ⟨⟨v, rfl, A1, c1, A2, c2, rfl, h1, h2⟩, hb⟩
  exact ⟨⟨A1, c1, A2, c2, rfl, h1, h2⟩, hb⟩
theorem wk_p2 (hP : TgProg) (w : World) (hT : TabT w) : Calls Tryz.prog 7 #[.string ⟨#[47]⟩] w fun e w' => (∃ A1 c1 A2 c2, e = .returned (.tuple #[.agg #[.slice A1 1 c1, .slice A2 0 c2], .int .i64 0]) ∧ Txs w' A1 [[]]) ∧ Below w.heap.size w w' := by
  refine (hP.parse [47] w hT (by decide)).mono ?_
  rw [show parseTg [47] = some ([[]], []) by decide]
  rintro e w' ⟨⟨v, rfl, A1, c1, A2, c2, rfl, h1, h2⟩, hb⟩
  exact ⟨⟨A1, c1, A2, c2, rfl, h1⟩, hb⟩
theorem wk_p3 (hP : TgProg) (y : List UInt8) (hy : y ∈ wkBad) (w : World) (hT : TabT w) : Calls Tryz.prog 7 #[.string ⟨y.toArray⟩] w fun e w' => e = .returned (.tuple #[.agg #[.slice none 0 0, .slice none 0 0], .int .i64 210]) ∧ Below w.heap.size w w' := by
  obtain ⟨h1, h2⟩ := wk_bad y hy
  refine (hP.parse y w hT (by omega)).mono ?_
  rw [h1]
  exact fun e w' h => h
theorem wk_t1 (hP : TgProg) (w : World) (hT : TabT w) (A1 A2 : Option Addr) (c1 c2 : Nat) (h1 : Txs w A1 [[97, 47, 98]]) : Calls Tryz.prog 16 #[.agg #[.slice A1 1 c1, .slice A2 0 c2]] w fun e w' => e = .returned (.tuple #[.string ⟨#[]⟩, .int .i64 2]) ∧ Below w.heap.size w w' :=
  hP.text A1 A2 c1 c2 ([[97, 47, 98]], []) w hT wk_few3 h1 (Prs.nil _ _)
theorem wk_t2 (hP : TgProg) (w : World) (hT : TabT w) (A1 A2 : Option Addr) (c1 c2 : Nat) (h1 : Txs w A1 [[98, 32, 99]]) (h2 : Prs w A2 [([195, 169], [49])]) : Calls Tryz.prog 16 #[.agg #[.slice A1 1 c1, .slice A2 1 c2]] w fun e w' => e = .returned (.tuple #[.string ⟨#[47, 98, 37, 50, 48, 99, 63, 37, 67, 51, 37, 65, 57, 61, 49]⟩, .int .i64 0]) ∧ Below w.heap.size w w' := by
  refine (hP.text A1 A2 c1 c2 ([[98, 32, 99]], [([195, 169], [49])]) w hT wk_few4 h1 h2).mono ?_
  unfold TextR
  rw [show textV ([[98, 32, 99]], [([195, 169], [49])]) = .tuple #[.string ⟨#[47, 98, 37, 50, 48, 99, 63, 37, 67, 51, 37, 65, 57, 61, 49]⟩, .int .i64 0] by
    unfold textV
    rw [if_pos (by decide), show textTg ([[98, 32, 99]], [([195, 169], [49])]) = [47, 98, 37, 50, 48, 99, 63, 37, 67, 51, 37, 65, 57, 61, 49] by decide]]
  exact fun e w' h => h
end Go.Proofs.YtcogdfgmmpfkkaaGreatDoor
