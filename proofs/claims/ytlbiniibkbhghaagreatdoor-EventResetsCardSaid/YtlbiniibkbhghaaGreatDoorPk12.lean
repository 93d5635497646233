import Derived.Test.YtlbiniibkbhghaaGreatDoorPk11
import Derived.Deep.RegionHeld3
import Derived.BigQuiet
import Derived.Deep.CutRange
import Derived.Laws.StructEq
namespace Go.Proofs.YtlbiniibkbhghaaGreatDoor
open Go.RowKit Go.Shelf
attribute [local go_sem] Oper.semAt_some

/-! ## few; the ways of EventHolds that end in the chapter's rows -/
def fewE (e : Ev) : Prop := e.1.length ≤ 300 ∧ e.2.1.length ≤ 300 ∧ e.2.2.length ≤ 300
instance (e : Ev) : Decidable (fewE e) := inferInstanceAs (Decidable (_ ∧ _))
/-- No longer than what fits into memory. -/
def WideE (e : Ev) : Prop := e.1.length ≤ 140737488351232 ∧ e.2.1.length ≤ 140737488351232 ∧ e.2.2.length ≤ 140737488351232
theorem wide_of {e : Ev} (h : fewE e) : WideE e := ⟨by have := h.1; omega, by have := h.2.1; omega, by have := h.2.2; omega⟩
theorem short_of {e : Ev} (h : fewE e) : ShortE e := ⟨by have := h.1; omega, by have := h.2.1; omega, by have := h.2.2; omega⟩
set_option maxRecDepth 100000 in
set_option maxHeartbeats 2000000 in
theorem few_any (e : Ev) (w : World) (hl : WideE e) : Calls Tryz.prog 7 #[evV e] w fun r w' => r = .returned (.bool (decide (fewE e))) ∧ Below w.heap.size w w' := by
  have hb : Below w.heap.size w (w.alloc (.cells (evCells e) 23)) := (Below.refl _ _).alloc (Nat.le_refl _) _
  have hb' := Lib.hid hb
  clear hb
  obtain ⟨a, b, c⟩ := e
  obtain ⟨l1, l2, l3⟩ := hl
  simp only at l1 l2 l3
  obtain ⟨d, hd⟩ : ∃ d, decide (fewE (a, b, c)) = d := ⟨_, rfl⟩
  rw [hd]
  unfold evV evCells at *
  by_cases h1 : a.length ≤ 300
  · by_cases h2 : b.length ≤ 300
    · by_cases h3 : c.length ≤ 300
      · have hd' := Lib.hid (show d = true from by rw [← hd]; exact decide_eq_true ⟨h1, h2, h3⟩)
        clear hd
        have i1 : (a.length : Int) ≤ 300 := by omega
        have i2 : (b.length : Int) ≤ 300 := by omega
        have i3 : (c.length : Int) ≤ 300 := by omega
        go_enter Tryz.func7, Tryz.ntmps7
        go_wp2
        go_ret
        exact ⟨by rw [hd'.out]; rfl, hb'.out⟩
      · have hd' := Lib.hid (show d = false from by rw [← hd]; exact decide_eq_false (fun h => h3 h.2.2))
        clear hd
        have i1 : (a.length : Int) ≤ 300 := by omega
        have i2 : (b.length : Int) ≤ 300 := by omega
        have i3 : decide ((c.length : Int) ≤ 300) = false := decide_eq_false (by omega)
        go_enter Tryz.func7, Tryz.ntmps7
        go_wp2
        go_ret
        exact ⟨by rw [hd'.out]; rfl, hb'.out⟩
    · have hd' := Lib.hid (show d = false from by rw [← hd]; exact decide_eq_false (fun h => h2 h.2.1))
      clear hd
      have i1 : (a.length : Int) ≤ 300 := by omega
      have i2 : decide (b.length ≤ 300) = false := decide_eq_false h2
      go_enter Tryz.func7, Tryz.ntmps7
      go_wp2
      go_ret
      exact ⟨by rw [hd'.out]; rfl, hb'.out⟩
  · have hd' := Lib.hid (show d = false from by rw [← hd]; exact decide_eq_false (fun h => h1 h.1))
    clear hd
    have i1 : decide (a.length ≤ 300) = false := decide_eq_false h1
    go_enter Tryz.func7, Tryz.ntmps7
    go_wp2
    go_ret
    exact ⟨by rw [hd'.out]; rfl, hb'.out⟩
theorem carryE {P : Program} {k : FuncId} {args : Array Value} {v : Value} (w0 w : World) (hb : Below w0.heap.size w0 w) (h : Calls P k args w fun e w' => e = .returned v ∧ Below w.heap.size w w') : Calls P k args w fun e w' => e = .returned v ∧ Below w.heap.size w w' ∧ Below w0.heap.size w0 w' := by
  refine h.mono ?_
  rintro e w' ⟨rfl, h⟩
  exact ⟨rfl, h, hb.trans (h.mono hb.size)⟩
set_option maxRecDepth 100000 in
set_option maxHeartbeats 4000000 in
theorem holds_far (x y : Ev) (w : World) (hx : WideE x) (hy : WideE y) (hT : EvT w) (hD : Tab w) (h : ¬ (fewE x ∧ fewE y)) : Calls Tryz.prog 6 #[evV x, evV y] w fun r w' => r = .returned (.bool true) ∧ Below w.heap.size w w' := by
  have hb3 : Below w.heap.size w (((w.alloc (.cells (evCells x) 23)).alloc (.cells (evCells y) 23)).alloc (.cells #[.bool false] 4)) := (((Below.refl _ _).alloc (Nat.le_refl _) _).alloc (by simp) _).alloc (by simp; omega) _
  have hfx := Lib.hid (fun W (hb : Below w.heap.size w W) => carryE w W hb (few_any x W hx))
  have hfy := Lib.hid (fun W (hb : Below w.heap.size w W) => carryE w W hb (few_any y W hy))
  have hwk := Lib.hid (fun W (hb : Below w.heap.size w W) => carryE w W hb (worksE_any W (hT.below hb) (hD.below hb)))
  have hb3' := Lib.hid hb3
  have hky := Lib.hid ((Has.new (w.alloc (.cells (evCells x) 23)) 23 (evCells y)).alloc (.cells #[.bool false] 4))
  have hkr := Lib.hid (Has.new ((w.alloc (.cells (evCells x) 23)).alloc (.cells (evCells y) 23)) 4 #[.bool false])
  clear hb3 hT hD hx hy
  unfold evV evCells at *
  by_cases h1 : fewE x
  · have h2 : ¬ fewE y := fun h2 => h ⟨h1, h2⟩
    rw [decide_eq_true h1] at hfx
    rw [decide_eq_false h2] at hfy
    clear h h1 h2
    go_enter Tryz.func6, Tryz.ntmps6
    go_wp2_with (first
      | (go_at_call 7; (with_reducible refine Calls.mono (hfy.out _ hb4'.out) ?_); rintro r w5 ⟨rfl, hc5, hb5⟩; have hb5' := Lib.hid hb5; have hr5 := Lib.hid (hr4.out.below hc5 hr4.out.lt); clear hc5 hb5)
      | (go_at_call 7; (with_reducible refine Calls.mono (hfx.out _ hb3'.out) ?_); rintro r w4 ⟨rfl, hc4, hb4⟩; have hb4' := Lib.hid hb4; have hy4 := Lib.hid (hky.out.below hc4 hky.out.lt); have hr4 := Lib.hid (hkr.out.below hc4 hkr.out.lt); have y0 := hy4.out.cell 0; have y1 := hy4.out.cell 1; have y2 := hy4.out.cell 2; simp only [World.size_alloc] at y0 y1 y2; clear hc4 hb4)
      | (go_at_call 8; (with_reducible refine Calls.mono (hwk.out _ hb5'.out) ?_); rintro r w6 ⟨rfl, hc6, hb6⟩; have hb6' := Lib.hid hb6; have hr6 := Lib.hid (hr5.out.below hc6 hr5.out.lt); have r0 := hr6.out.cell 0; have g0 := hr6.out.free 0; simp only [World.size_alloc] at r0 g0; have r1 := (hr6.out.put 0 (.bool true)).cell 0; simp only [World.size_alloc] at r1; clear hc6 hb6))
    refine ⟨rfl, .bool true, ?_, rfl, hb6'.out.setCell (p := ⟨w.heap.size + 1 + 1, 0, none⟩) (by simp; omega) _⟩
    simp [results, Tryz.results6, go_sem, r1]
  · rw [decide_eq_false h1] at hfx
    clear h h1 hfy
    go_enter Tryz.func6, Tryz.ntmps6
    go_wp2_with (first
      | (go_at_call 7; (with_reducible refine Calls.mono (hfx.out _ hb3'.out) ?_); rintro r w4 ⟨rfl, hc4, hb4⟩; have hb4' := Lib.hid hb4; have hr4 := Lib.hid (hkr.out.below hc4 hkr.out.lt); clear hc4 hb4)
      | (go_at_call 8; (with_reducible refine Calls.mono (hwk.out _ hb4'.out) ?_); rintro r w6 ⟨rfl, hc6, hb6⟩; have hb6' := Lib.hid hb6; have hr6 := Lib.hid (hr4.out.below hc6 hr4.out.lt); have r0 := hr6.out.cell 0; have g0 := hr6.out.free 0; simp only [World.size_alloc] at r0 g0; have r1 := (hr6.out.put 0 (.bool true)).cell 0; simp only [World.size_alloc] at r1; clear hc6 hb6))
    refine ⟨rfl, .bool true, ?_, rfl, hb6'.out.setCell (p := ⟨w.heap.size + 1 + 1, 0, none⟩) (by simp; omega) _⟩
    simp [results, Tryz.results6, go_sem, r1]
end Go.Proofs.YtlbiniibkbhghaaGreatDoor

namespace Go.Proofs.YtlbiniibkbhghaaGreatDoor
open Go.RowKit Go.Shelf
attribute [local go_sem] Oper.semAt_some

/-! ## EventHolds where the first event may not be -/
theorem encode_no (e : Ev) (w0 w : World) (hb : Below w0.heap.size w0 w) (hT : EvT w0) (hl : ShortE e) (hr : rightE e = false) : Calls Tryz.prog 9 #[evV e] w fun r w' => r = .returned (.tuple #[.slice none 0 0, .int .i64 2]) ∧ Below w.heap.size w w' ∧ Below w0.heap.size w0 w' := by
  refine (encode_any e w hl (hT.below hb)).mono ?_
  rintro r w' ⟨⟨h, _⟩ | ⟨_, rfl⟩, hb2⟩
  · rw [hr] at h; cases h
  · exact ⟨rfl, hb2, hb.trans (hb2.mono hb.size)⟩
end Go.Proofs.YtlbiniibkbhghaaGreatDoor

namespace Go.Proofs.YtlbiniibkbhghaaGreatDoor
open Go.RowKit Go.Shelf

/-! ## What EventHolds makes of lines, one by one -/
def fAt (e : Ev) (x : Nat) : FdT := fieldF (lnAt (fieldsE e) x)
theorem getD_map' {α β : Type} (f : α → β) (d : α) : ∀ (l : List α) (k : Nat), (l.map f).getD k (f d) = f (l.getD k d)
  | [], _ => rfl
  | _ :: _, 0 => rfl
  | _ :: _, _ + 1 => by simp
theorem fieldF_nil : fieldF [] = ((1 : Int), [], []) := by decide
theorem fAt_eq (e : Ev) (x : Nat) : fAt e x = (fieldsE e ++ [(1, [], [])]).getD x (1, [], []) := by
  unfold fAt lnAt
  rw [← getD_map' fieldF [] (linesOf (fieldsE e)) x |>.symm.trans (by rfl) |>.symm, fieldF_nil]
  congr 1
  exact fields_back e
theorem fAt_mem (e : Ev) (x : Nat) : fAt e x ∈ fieldsE e ∨ fAt e x = (1, [], []) := by
  rw [fAt_eq, List.getD_eq_getElem?_getD]
  cases h : (fieldsE e ++ [((1 : Int), ([] : List UInt8), ([] : List UInt8))])[x]? with
  | none => exact .inr rfl
  | some f =>
    have := List.mem_of_getElem? h
    rcases List.mem_append.1 this with h1 | h1
    · exact .inl h1
    · exact .inr (List.mem_singleton.1 h1)
theorem fieldsE_kinds (e : Ev) : ∀ f ∈ fieldsE e, (f.1 = 5 ∧ f.2.2 = e.1) ∨ (f.1 = 4 ∧ f.2.2 = e.2.1) ∨ (f.1 = 3 ∧ f.2.2 ∈ partsL e.2.2) := by
  intro f hf
  unfold fieldsE at hf
  rcases List.mem_append.1 hf with h | h
  · unfold oneF at h
    split at h
    · simp at h
    · obtain rfl := List.mem_singleton.1 h
      exact .inl ⟨rfl, rfl⟩
  · rcases List.mem_append.1 h with h | h
    · unfold oneF at h
      split at h
      · simp at h
      · obtain rfl := List.mem_singleton.1 h
        exact .inr (.inl ⟨rfl, rfl⟩)
    · unfold dataF at h
      obtain ⟨p, hp, rfl⟩ := List.mem_map.1 h
      exact .inr (.inr ⟨rfl, hp⟩)
theorem fAt_kind (e : Ev) (x : Nat) : (fAt e x).1 = 5 ∨ (fAt e x).1 = 4 ∨ (fAt e x).1 = 3 ∨ (fAt e x).1 = 1 := by
  rcases fAt_mem e x with h | h
  · rcases fieldsE_kinds e _ h with h | h | h
    · exact .inl h.1
    · exact .inr (.inl h.1)
    · exact .inr (.inr (.inl h.1))
  · rw [h]; exact .inr (.inr (.inr rfl))
theorem fAt_len {e : Ev} (he : fewE e) (x : Nat) : (fAt e x).2.2.length ≤ 300 := by
  obtain ⟨h1, h2, h3⟩ := he
  rcases fAt_mem e x with h | h
  · rcases fieldsE_kinds e _ h with h | h | h
    · rw [h.2]; exact h1
    · rw [h.2]; exact h2
    · exact Nat.le_trans (partsL_len _ _ h.2) h3
  · rw [h]; exact Nat.zero_le _
theorem fAt_all (e : Ev) : (List.range ((fieldsE e).length + 1)).map (fAt e) = fieldsE e ++ [(1, [], [])] := by
  unfold fAt
  rw [show (fun x => fieldF (lnAt (fieldsE e) x)) = fieldF ∘ lnAt (fieldsE e) from rfl, ← List.map_map, lnAt_all]
  exact fields_back e
def ehAt (e : Ev) (pre : List Nat) : EhS := ehOf (pre.map (fAt e))
theorem ehAt_snoc (e : Ev) (pre : List Nat) (x : Nat) : ehAt e (pre ++ [x]) = ehStep (ehAt e pre) (fAt e x) := by
  unfold ehAt
  rw [List.map_append, List.map_singleton, ehOf_snoc]
theorem ehAt_all (e : Ev) : ehAt e (List.range ((fieldsE e).length + 1)) = (e.1, e.2.1, e.2.2, (partsL e.2.2).length, 1) := by
  unfold ehAt
  rw [fAt_all]
  exact eh_all e
set_option maxRecDepth 10000 in
theorem eh_fold_bound (l : List FdT) (h : ∀ f ∈ l, f.2.2.length ≤ 300) : ∀ (s : EhS) (m : Nat), s.2.2.1.length ≤ m * 301 → s.2.2.2.1 ≤ m → s.2.2.2.2 ≤ m → (l.foldl ehStep s).2.2.1.length ≤ (m + l.length) * 301 ∧ (l.foldl ehStep s).2.2.2.1 ≤ m + l.length ∧ (l.foldl ehStep s).2.2.2.2 ≤ m + l.length := by
  induction l with
  | nil => exact fun s m h1 h2 h3 => ⟨h1, h2, h3⟩
  | cons f l ih =>
    intro s m h1 h2 h3
    have hf := h f (by simp)
    have := ih (fun g hg => h g (by simp [hg])) (ehStep s f) (m + 1) (by
      unfold ehStep
      (repeat' split) <;> simp only [List.length_append, List.length_cons, List.length_nil] <;> omega) (by
      unfold ehStep
      (repeat' split) <;> simp only <;> omega) (by
      unfold ehStep
      (repeat' split) <;> simp only <;> omega)
    rw [List.foldl_cons, List.length_cons]
    obtain ⟨a, b, c⟩ := this
    refine ⟨by rw [show m + (l.length + 1) = m + 1 + l.length by omega]; exact a, by omega, by omega⟩
theorem ehAt_bound {e : Ev} (he : fewE e) (pre : List Nat) : (ehAt e pre).2.2.1.length ≤ pre.length * 301 ∧ (ehAt e pre).2.2.2.1 ≤ pre.length ∧ (ehAt e pre).2.2.2.2 ≤ pre.length := by
  have := eh_fold_bound (pre.map (fAt e)) (fun f hf => by obtain ⟨x, _, rfl⟩ := List.mem_map.1 hf; exact fAt_len he x) ([], [], [], 0, 0) 0 (by simp) (Nat.le_refl _) (Nat.le_refl _)
  simpa [ehAt, ehOf] using this
/-- The five boxes, from block B on, and all that lay ahead of them. -/
structure EhM (w0 : World) (B : Nat) (s : EhS) (W : World) : Prop where
  b0 : Has W B 9 #[.string ⟨s.1.toArray⟩]
  b1 : Has W (B + 1) 9 #[.string ⟨s.2.1.toArray⟩]
  b2 : Has W (B + 2) 9 #[.string ⟨s.2.2.1.toArray⟩]
  b3 : Has W (B + 3) 3 #[.int .i64 (s.2.2.2.1 : Int)]
  b4 : Has W (B + 4) 3 #[.int .i64 (s.2.2.2.2 : Int)]
  be : Below B w0 W
theorem EhM.below {w0 W V : World} {B : Nat} {s : EhS} (h : EhM w0 B s W) (hb : Below W.heap.size W V) : EhM w0 B s V :=
  ⟨h.b0.below hb h.b0.lt, h.b1.below hb h.b1.lt, h.b2.below hb h.b2.lt, h.b3.below hb h.b3.lt, h.b4.below hb h.b4.lt, h.be.trans (hb.mono (by have := h.b0.lt; omega))⟩
theorem EhM.from {w0 X Y : World} {B n : Nat} {s : EhS} {row : Option Nat} (h : EhM w0 B s X) (hn : B + 5 ≤ n) (hg : X.grownBy Y row) (hr : ∀ r, row = some r → n ≤ r ∧ ∃ o : Obj, X.heap[r]? = some o ∧ o.isCells = false) : EhM w0 B s Y :=
  ⟨h.b0.row hg hr, h.b1.row hg hr, h.b2.row hg hr, h.b3.row hg hr, h.b4.row hg hr, h.be.grown hg (by have := h.b0.lt; omega) (fun g e => by have := (hr g e).1; omega)⟩
theorem EhM.set0 {w0 W : World} {B : Nat} {s : EhS} (h : EhM w0 B s W) (t : List UInt8) : EhM w0 B (t, s.2) (W.setCell ⟨B, 0, none⟩ (.string ⟨t.toArray⟩)) :=
  ⟨h.b0.put 0 _, h.b1.other (by omega) _, h.b2.other (by omega) _, h.b3.other (by omega) _, h.b4.other (by omega) _, h.be.setCell (p := ⟨B, 0, none⟩) (Nat.le_refl _) _⟩
theorem EhM.set1 {w0 W : World} {B : Nat} {s : EhS} (h : EhM w0 B s W) (t : List UInt8) : EhM w0 B (s.1, t, s.2.2) (W.setCell ⟨B + 1, 0, none⟩ (.string ⟨t.toArray⟩)) :=
  ⟨h.b0.other (by omega) _, h.b1.put 0 _, h.b2.other (by omega) _, h.b3.other (by omega) _, h.b4.other (by omega) _, h.be.setCell (p := ⟨B + 1, 0, none⟩) (by simp) _⟩
theorem EhM.set2 {w0 W : World} {B : Nat} {s : EhS} (h : EhM w0 B s W) (t : List UInt8) : EhM w0 B (s.1, s.2.1, t, s.2.2.2) (W.setCell ⟨B + 2, 0, none⟩ (.string ⟨t.toArray⟩)) :=
  ⟨h.b0.other (by omega) _, h.b1.other (by omega) _, h.b2.put 0 _, h.b3.other (by omega) _, h.b4.other (by omega) _, h.be.setCell (p := ⟨B + 2, 0, none⟩) (by simp) _⟩
theorem EhM.set3 {w0 W : World} {B : Nat} {s : EhS} (h : EhM w0 B s W) (n : Nat) : EhM w0 B (s.1, s.2.1, s.2.2.1, n, s.2.2.2.2) (W.setCell ⟨B + 3, 0, none⟩ (.int .i64 (n : Int))) :=
  ⟨h.b0.other (by omega) _, h.b1.other (by omega) _, h.b2.other (by omega) _, h.b3.put 0 _, h.b4.other (by omega) _, h.be.setCell (p := ⟨B + 3, 0, none⟩) (by simp) _⟩
theorem EhM.set4 {w0 W : World} {B : Nat} {s : EhS} (h : EhM w0 B s W) (n : Nat) : EhM w0 B (s.1, s.2.1, s.2.2.1, s.2.2.2.1, n) (W.setCell ⟨B + 4, 0, none⟩ (.int .i64 (n : Int))) :=
  ⟨h.b0.other (by omega) _, h.b1.other (by omega) _, h.b2.other (by omega) _, h.b3.other (by omega) _, h.b4.put 0 _, h.be.setCell (p := ⟨B + 4, 0, none⟩) (by simp) _⟩
theorem lnE_len {e : Ev} (he : fewE e) (x : Nat) : (lnAt (fieldsE e) x).length ≤ 1000 := by
  have hb : ∀ f : FdT, (betw f).length ≤ 2 := fun f => by unfold betw; (repeat' split) <;> simp
  have key : ∀ l ∈ linesOf (fieldsE e), l.length ≤ 1000 := by
    intro l hl
    unfold linesOf at hl
    rcases List.mem_append.1 hl with h | h
    · obtain ⟨f, hf, rfl⟩ := List.mem_map.1 h
      have hn : f.2.1.length ≤ 5 := by
        unfold fieldsE at hf
        rcases List.mem_append.1 hf with h | h
        · unfold oneF at h
          split at h
          · simp at h
          · obtain rfl := List.mem_singleton.1 h
            simp [idN]
        · rcases List.mem_append.1 h with h | h
          · unfold oneF at h
            split at h
            · simp at h
            · obtain rfl := List.mem_singleton.1 h
              simp [eventN]
          · unfold dataF at h
            obtain ⟨p, hp, rfl⟩ := List.mem_map.1 h
            simp [dataN]
      have hv : f.2.2.length ≤ 300 := by
        rcases fieldsE_kinds e f hf with h | h | h
        · rw [h.2]; exact he.1
        · rw [h.2]; exact he.2.1
        · exact Nat.le_trans (partsL_len _ _ h.2) he.2.2
      have := hb f
      unfold lineF
      simp only [List.length_append]
      omega
    · obtain rfl := List.mem_singleton.1 h
      simp
  unfold lnAt
  rw [List.getD_eq_getElem?_getD]
  cases h : (linesOf (fieldsE e))[x]? with
  | none => simp
  | some y => exact key y (List.mem_of_getElem? h)
end Go.Proofs.YtlbiniibkbhghaaGreatDoor

namespace Go.Proofs.YtlbiniibkbhghaaGreatDoor
open Go.RowKit Go.Shelf
attribute [local go_sem] Oper.semAt_some
attribute [local go_sem] wide_fn wide_depth wide_round

/-! ## EventHolds: two short events -/
set_option maxRecDepth 100000 in
theorem event_equal (x y : Ev) (w : World) : (Op.equalIn 10000 23 (.agg #[.string ⟨x.1.toArray⟩, .string ⟨x.2.1.toArray⟩, .string ⟨x.2.2.toArray⟩]) (.agg #[.string ⟨y.1.toArray⟩, .string ⟨y.2.1.toArray⟩, .string ⟨y.2.2.toArray⟩])).run Tryz.prog w = .ok (decide (x = y)) w := by
  have hu : Tryz.prog.underlying 23 = some (.struct (Tryz.prog.fieldsOf 23)) := by kernel_rfl
  have hp : Tryz.prog.stoodInHeld 23 = false := by kernel_rfl
  have hv := Tryz.underlying23
  have hs : ∀ (d : Nat) (x y : ByteArray) (w : World), (Op.equalIn (d + 1) 9 (.string x) (.string y)).run Tryz.prog w = .ok (x.toList == y.toList) w := fun d x y w => run_equalIn_string w d _ x y Tryz.underlying9
  have k1 : Tryz.prog.cellsOf 9 = 1 := by kernel_rfl
  rw [show (10000 : Nat) = 9999 + 1 from rfl, run_equalIn_struct w 9999 _ _ _ hu hp]
  have he : ∀ a : List UInt8, (ByteArray.mk a.toArray).toList = a := fun a => by rw [ByteArray.toList_eq]
  have hs' := hs 9998
  simp only [Nat.reduceAdd] at hs'
  obtain ⟨a, b, c⟩ := x
  obtain ⟨d, e, f⟩ := y
  simp [Op.eqFields, Program.fieldsOf, hv, hs', he, go_sem]
  by_cases h1 : a = d <;> by_cases h2 : b = e <;> by_cases h3 : c = f <;> simp [h1, h2, h3]
theorem bs_convD {W : World} {n0 m c : Nat} {A : Option Addr} {l : List UInt8} (h : Bs W n0 (.slice A m c) l) (q : Nat) : (convert 26 9 (.slice A m c)).run Tryz.prog (W.drewN q) = .ok (.string ⟨l.toArray⟩) (W.drewN q) :=
  bs_conv (h.below (below_draws (Below.refl W.heap.size W) q))
def EncE (e : Ev) (w0 W : World) (r : Ending) (w' : World) : Prop :=
  ∃ A m c n, r = .returned (.tuple #[.slice A m c, .int .i64 n]) ∧ ((n = 0 ∧ rightE e = true ∧ Bs w' W.heap.size (.slice A m c) (bytesE e)) ∨ (n = 2 ∧ rightE e = false)) ∧ Below W.heap.size W w' ∧ Below w0.heap.size w0 w'
theorem encodeE (e : Ev) (w0 W : World) (hb : Below w0.heap.size w0 W) (hT : EvT w0) (hl : ShortE e) : Calls Tryz.prog 9 #[evV e] W (EncE e w0 W) := by
  refine (encode_any e W hl (hT.below hb)).mono ?_
  rintro r w' ⟨⟨hr, v, rfl, hv⟩ | ⟨hr, rfl⟩, hb2⟩
  · obtain ⟨A, m, c, rfl⟩ := bs_slice hv
    exact ⟨A, m, c, 0, rfl, .inl ⟨rfl, hr, hv⟩, hb2, hb.trans (hb2.mono hb.size)⟩
  · exact ⟨none, 0, 0, 2, rfl, .inr ⟨rfl, hr⟩, hb2, hb.trans (hb2.mono hb.size)⟩
theorem eh_new (w9 : World) : EhM w9 w9.heap.size ([], [], [], 0, 0) (((((w9.alloc (.cells #[.string ⟨#[]⟩] 9)).alloc (.cells #[.string ⟨#[]⟩] 9)).alloc (.cells #[.string ⟨#[]⟩] 9)).alloc (.cells #[.int .i64 0] 3)).alloc (.cells #[.int .i64 0] 3)) := by
  have k0 := ((((Has.new w9 9 #[.string ⟨#[]⟩]).alloc (.cells #[.string ⟨#[]⟩] 9)).alloc (.cells #[.string ⟨#[]⟩] 9)).alloc (.cells #[.int .i64 0] 3)).alloc (.cells #[.int .i64 0] 3)
  have k1 := (((Has.new (w9.alloc (.cells #[.string ⟨#[]⟩] 9)) 9 #[.string ⟨#[]⟩]).alloc (.cells #[.string ⟨#[]⟩] 9)).alloc (.cells #[.int .i64 0] 3)).alloc (.cells #[.int .i64 0] 3)
  have k2 := ((Has.new ((w9.alloc (.cells #[.string ⟨#[]⟩] 9)).alloc (.cells #[.string ⟨#[]⟩] 9)) 9 #[.string ⟨#[]⟩]).alloc (.cells #[.int .i64 0] 3)).alloc (.cells #[.int .i64 0] 3)
  have k3 := (Has.new (((w9.alloc (.cells #[.string ⟨#[]⟩] 9)).alloc (.cells #[.string ⟨#[]⟩] 9)).alloc (.cells #[.string ⟨#[]⟩] 9)) 3 #[.int .i64 0]).alloc (.cells #[.int .i64 0] 3)
  have k4 := Has.new ((((w9.alloc (.cells #[.string ⟨#[]⟩] 9)).alloc (.cells #[.string ⟨#[]⟩] 9)).alloc (.cells #[.string ⟨#[]⟩] 9)).alloc (.cells #[.int .i64 0] 3)) 3 #[.int .i64 0]
  simp only [World.size_alloc] at k1 k2 k3 k4
  exact ⟨k0, k1, k2, k3, k4, (((((Below.refl _ _).alloc (Nat.le_refl _) _).alloc (by simp) _).alloc (by simp; omega) _).alloc (by simp; omega) _).alloc (by simp; omega) _⟩
def AxE (F : Nat → Act) (x : Nat) (a' : Act) (_ : World) : Prop := a' = F x
set_option maxRecDepth 100000 in
set_option maxHeartbeats 8000000 in
theorem holds_near (x y : Ev) (w : World) (hx : fewE x) (hy : fewE y) (hT : EvT w) (hD : Tab w) : Calls Tryz.prog 6 #[evV x, evV y] w fun r w' => r = .returned (.bool true) ∧ Below w.heap.size w w' := by
  have hb3 : Below w.heap.size w (((w.alloc (.cells (evCells x) 23)).alloc (.cells (evCells y) 23)).alloc (.cells #[.bool false] 4)) := (((Below.refl _ _).alloc (Nat.le_refl _) _).alloc (by simp) _).alloc (by simp; omega) _
  have hfx := Lib.hid (fun W (hb : Below w.heap.size w W) => carryE w W hb (few_any x W (wide_of hx)))
  have hfy := Lib.hid (fun W (hb : Below w.heap.size w W) => carryE w W hb (few_any y W (wide_of hy)))
  have hwk := Lib.hid (fun W (hb : Below w.heap.size w W) => carryE w W hb (worksE_any W (hT.below hb) (hD.below hb)))
  have hex := Lib.hid (fun W (hb : Below w.heap.size w W) => encodeE x w W hb hT (short_of hx))
  have hey := Lib.hid (fun W (hb : Below w.heap.size w W) => encodeE y w W hb hT (short_of hy))
  have heq := fun W => event_equal x y W
  have hxy := Lib.hid (fun h1 h2 => bytes_inj (x := x) (y := y) h1 h2)
  have hb3' := Lib.hid hb3
  have hkx := Lib.hid (((Has.new w 23 (evCells x)).alloc (.cells (evCells y) 23)).alloc (.cells #[.bool false] 4))
  have hky := Lib.hid ((Has.new (w.alloc (.cells (evCells x) 23)) 23 (evCells y)).alloc (.cells #[.bool false] 4))
  have hkr := Lib.hid (Has.new ((w.alloc (.cells (evCells x) 23)).alloc (.cells (evCells y) 23)) 4 #[.bool false])
  simp only [World.size_alloc] at hky hkr
  rw [decide_eq_true hx] at hfx
  rw [decide_eq_true hy] at hfy
  have hT' := Lib.hid hT
  have hx' := Lib.hid hx
  clear hb3 hT hD hx hy
  unfold EncE at hex hey
  unfold evV evCells at *
  refine (callsIn_wide (n := 3)).1 ?_
  refine callsIn_of_wp_marks Tryz.func6 rfl trivial ?_ rfl
  refine wpIn_wide.2 ?_
  simp only [Tryz.ntmps6, List.size_toArray, List.length_cons, List.length_nil, Nat.reduceAdd, Nat.reduceSub, Array.replicate_succ, Array.replicate_zero, List.push_toArray, List.append_toArray, List.nil_append, List.cons_append]
  go_upto_region 5 with (first
    | (go_at_call 7; (with_reducible refine Calls.mono (hfy.out _ hb4'.out) ?_); rintro r w5 ⟨rfl, hc5, hb5⟩; have hb5' := Lib.hid hb5; have hr5 := Lib.hid (hr4.out.below hc5 hr4.out.lt); have hx5 := Lib.hid (hx4.out.below hc5 hx4.out.lt); have hy5 := Lib.hid (hy4.out.below hc5 hy4.out.lt); have x0 := hx5.out.cell 0; have x1 := hx5.out.cell 1; have x2 := hx5.out.cell 2; clear hc5 hb5)
    | (go_at_call 7; (with_reducible refine Calls.mono (hfx.out _ hb3'.out) ?_); rintro r w4 ⟨rfl, hc4, hb4⟩; have hb4' := Lib.hid hb4; have hx4 := Lib.hid (hkx.out.below hc4 hkx.out.lt); have hy4 := Lib.hid (hky.out.below hc4 hky.out.lt); have hr4 := Lib.hid (hkr.out.below hc4 hkr.out.lt); have y0 := hy4.out.cell 0; have y1 := hy4.out.cell 1; have y2 := hy4.out.cell 2; clear hc4 hb4)
    | (go_at_call 9; (with_reducible refine Calls.mono (hey.out _ hb6'.out) ?_); rintro r w7 ⟨A7, m7, c7, n7, rfl, hn7, hc7, hb7⟩; have hb7' := Lib.hid hb7; have hr7 := Lib.hid (hr6.out.below hc7 hr6.out.lt); have hx7 := Lib.hid (hx6.out.below hc7 hx6.out.lt); have hy7 := Lib.hid (hy6.out.below hc7 hy6.out.lt); have hn67 := Lib.hid (hn6'.out.imp (fun h => (⟨h.1, h.2.1, h.2.2.below hc7⟩ : _ ∧ _ ∧ _)) id); have hn7' := Lib.hid hn7; clear hc7 hb7 hn7 y0 y1 y2 x0 x1 x2 z0 z1 z2)
    | (go_at_call 9; (with_reducible refine Calls.mono (hex.out _ hb5'.out) ?_); rintro r w6 ⟨A6, m6, c6, n6, rfl, hn6, hc6, hb6⟩; have hb6' := Lib.hid hb6; have hx6 := Lib.hid (hx5.out.below hc6 hx5.out.lt); have hy6 := Lib.hid (hy5.out.below hc6 hy5.out.lt); have hr6 := Lib.hid (hr5.out.below hc6 hr5.out.lt); have z0 := hy6.out.cell 0; have z1 := hy6.out.cell 1; have z2 := hy6.out.cell 2; have hn6' := Lib.hid hn6; clear hc6 hb6 hn6))
  go_cut [53] from 37 to 53 (fun c wx => c = .bool false ∧ ∃ q, wx = w7.drewN q)
  case first =>
    have x0 := hx7.out.cell 0
    have x1 := hx7.out.cell 1
    have x2 := hx7.out.cell 2
    have y0 := hy7.out.cell 0
    have y1 := hy7.out.cell 1
    have y2 := hy7.out.cell 2
    rcases hn67.out with ⟨rfl, h1, hv1⟩ | ⟨rfl, h1⟩
    · rcases hn7'.out with ⟨rfl, h2, hv2⟩ | ⟨rfl, h2⟩
      · have cv1 := bs_convD hv1
        have cv2 := bs_convD hv2
        have hxy2 := hxy.out h1 h2
        clear hv1 hv2 h1 h2 hn67 hn7' hn6' hex hey
        by_cases he : x = y
        · rw [decide_eq_true he] at heq
          have hbe : (bytesE x == bytesE y) = true := beq_iff_eq.2 (hxy2.2 he)
          clear hxy2 he
          go_quiet (first
            | (refine Calls.mono (numE_any _ _) ?_; rintro e w15 ⟨rfl, rfl⟩; exact ⟨rfl, _, rfl⟩))
          go_wp2
          go_meet
          exact ⟨rfl, _, rfl⟩
        · rw [decide_eq_false he] at heq
          have hbe : (bytesE x == bytesE y) = false := by rw [beq_eq_false_iff_ne]; exact fun h => he (hxy2.1 h)
          clear hxy2 he
          go_quiet (first
            | (refine Calls.mono (numE_any _ _) ?_; rintro e w15 ⟨rfl, rfl⟩; exact ⟨rfl, _, rfl⟩))
          go_wp2
          go_meet
          exact ⟨rfl, _, rfl⟩
      · clear hn67 hn7' hn6' hex hey heq
        go_quiet (first
          | (refine Calls.mono (numE_any _ _) ?_; rintro e w15 ⟨rfl, rfl⟩; exact ⟨rfl, _, rfl⟩))
        go_wp2
        go_meet
        exact ⟨rfl, _, rfl⟩
    · rcases hn7'.out with ⟨rfl, h2, hv2⟩ | ⟨rfl, h2⟩
      all_goals
        clear hn67 hn7' hn6' hex hey heq
        go_quiet (first
          | (refine Calls.mono (numE_any _ _) ?_; rintro e w15 ⟨rfl, rfl⟩; exact ⟨rfl, _, rfl⟩))
        go_wp2
        go_meet
        exact ⟨rfl, _, rfl⟩
  case rest =>
    obtain ⟨rfl, q8, rfl⟩ := hcut
    have hb8' := Lib.hid (below_draws hb7'.out q8)
    have hr8 := Lib.hid (hr7.out.drewN q8)
    have hx8 := Lib.hid (hx7.out.drewN q8)
    rcases hn67.out with ⟨rfl, h1, hv1⟩ | ⟨rfl, h1⟩
    · have hln := Lib.hid (linesE_any x (w7.drewN q8) h1 (short_of hx'.out) (hT'.out.below hb8'.out))
      unfold LinesR evV evCells at hln
      have x0 := hx8.out.cell 0
      have x1 := hx8.out.cell 1
      have x2 := hx8.out.cell 2
      obtain ⟨w8, hw8⟩ : ∃ w8, w7.drewN q8 = w8 := ⟨_, rfl⟩
      rw [hw8] at hln x0 x1 x2 hx8 hr8 hb8' ⊢
      clear hn67 hn7' hn6' hex hey heq hv1 hw8 hb7' hr7 hx7 hy7 hb6' hr6 hx6 hy6 hfx hfy hky hkx hkr hb3' hb4' hr4 hx4 hy4 hb5' hr5 hx5 hy5 hxy
      have hnil : ∀ (fn : Fn) (f c : Array Value) (w : World), Sem.run Tryz.prog (binOp BinOp.eql 38 (Value.func fn f c) Value.nilFunc) w = .ok (.bool false) w := fun _ _ _ _ => by kernel_rfl
      go_wp2_with (first
        | (go_at_call 14; (with_reducible refine Calls.mono (numE_any _ _) ?_); rintro r w15 ⟨rfl, rfl⟩)
        | (go_at_call 17; (with_reducible refine Calls.mono hln.out ?_); rintro r w9 ⟨bN, bF, k, rfl, hE9, hN9, hF9, hK9, hb9⟩; have hE9' := Lib.hid hE9; have hb9' := Lib.hid hb9; have hbnd := Lib.hid (And.intro hN9 (And.intro hF9 hK9)); clear hE9 hb9 hN9 hF9 hK9))
      have hsz9 := hb9'.out.size
      obtain ⟨B, hB⟩ : ∃ B, w9.heap.size = B := ⟨_, rfl⟩
      have hnew := Lib.hid (show EhM w9 w9.heap.size (ehAt x []) (((((w9.alloc (.cells #[.string ⟨#[]⟩] 9)).alloc (.cells #[.string ⟨#[]⟩] 9)).alloc (.cells #[.string ⟨#[]⟩] 9)).alloc (.cells #[.int .i64 0] 3)).alloc (.cells #[.int .i64 0] 3)) from eh_new w9)
      have hz10 : (((((w9.alloc (.cells #[.string ⟨#[]⟩] 9)).alloc (.cells #[.string ⟨#[]⟩] 9)).alloc (.cells #[.string ⟨#[]⟩] 9)).alloc (.cells #[.int .i64 0] 3)).alloc (.cells #[.int .i64 0] 3)).heap.size = w9.heap.size + 5 := by simp
      obtain ⟨w10, hw10⟩ : ∃ w10, (((((w9.alloc (.cells #[.string ⟨#[]⟩] 9)).alloc (.cells #[.string ⟨#[]⟩] 9)).alloc (.cells #[.string ⟨#[]⟩] 9)).alloc (.cells #[.int .i64 0] 3)).alloc (.cells #[.int .i64 0] 3)) = w10 := ⟨_, rfl⟩
      rw [hw10] at hnew hz10 ⊢
      rw [hB] at hnew hz10 hsz9 ⊢
      have hB' := Lib.hid hB
      have hx8l := hx8.out.lt
      have hr8l := hr8.out.lt
      have hb89 := Lib.hid (hb8'.out.trans (hb9'.out.mono hb8'.out.size))
      have hT9 := Lib.hid (hT'.out.below hb89.out)
      have hn9 := hT9.out.nm.lt
      have hm9 : 3 < w9.heap.size := by
        obtain ⟨m, hm⟩ := hT9.out.mx
        exact hm.lt
      have hfew := Lib.hid hx'.out
      have hfit : x.1.length + x.2.1.length + x.2.2.length ≤ 65536 := by
        obtain ⟨l1, l2, l3⟩ := hx'.out
        omega
      have hE10 := hE9'.out.below (W' := w10) (by rw [hB]; exact hnew.out.be)
      obtain ⟨hN9, hF9, hK9⟩ := hbnd.out
      have hNl := hE9'.out.no.lt
      have hFl := hE9'.out.fr.lt
      have hKl := hE9'.out.at'.lt
      rw [hB] at hNl hFl hKl hn9 hm9
      have hfitH := Lib.hid hfit
      have hbB := Lib.hid (show Below w.heap.size w w9 from hb89.out)
      have hx9 := Lib.hid (hx8.out.below hb9'.out hx8l)
      have hr9 := Lib.hid (hr8.out.below hb9'.out hr8l)
      have hxl : w.heap.size + 1 + 1 < B := by omega
      clear x0 x1 x2 hnil hbnd hln hb9'
      refine (wpIn_wide (n := 3)).1 ?_
      refine wpIn_range_ownB 0 (gf := 34) (lb := #[.pointer (some ⟨bN, 0, none⟩), .pointer (some ⟨bF, 0, none⟩)]) rfl (enters_of Tryz.func34 (by kernel_rfl) rfl)
        (linesE_stops x bN bF k hfit (fun j => B ≤ j ∧ j < B + 5) w10 (fun j hj => by omega) ⟨by omega, by omega, by omega, by omega, by omega⟩ hE10)
        (fun h k => h.trans k) (fun W l o o' _ h1 h2 _ => KeepC.putObj W l o o' h1 h2) (Below.refl _ _) (fun _ => rfl)
        (fun pre W => EhM w9 B (ehAt x pre) W) (fun _ _ _ => False) (fun W => EhM w9 B (x.1, x.2.1, x.2.2, (partsL x.2.2).length, 1) W)
        (fun pre X Y row hs hg hr => hs.from (by omega) hg hr) (fun _ _ _ _ _ hs _ _ => hs.elim)
        hnew.out (fun xs W h1 h2 => by rw [h1, ehAt_all] at h2; exact h2) (fun _ _ _ _ h2 => h2.elim)
        (AxE ?Fz) (fun z a' _ X Y row hs _ _ => hs) ?assign0 ?body0 (fun _ _ h => h) ?rest0
      case assign0 =>
        intro l1 pre z V K hI hK
        have hK' := Lib.hid hK
        have hI' := Lib.hid hI
        clear hK hI
        dsimp only [encLs]
        gi_wp2
        refine hK'.out _ _ (KeepsFrom.refl _ _) (KeepC.refl _ _ _) hI'.out ?_
        rfl
      case body0 =>
        rintro l1 pre z a' V hM rfl hlen
        dsimp only
        obtain ⟨ln, hln⟩ : ∃ ln, (linesOf (fieldsE x))[z]?.getD [] = ln := ⟨_, rfl⟩
        rw [hln]
        have hlnz : lnAt (fieldsE x) z = ln := by rw [← hln, ← List.getD_eq_getElem?_getD]; rfl
        obtain ⟨f, hf⟩ : ∃ f, fAt x z = f := ⟨_, rfl⟩
        have hfl : fieldF ln = f := by rw [← hf, ← hlnz]; rfl
        have hk := fAt_kind x z
        have hfv := fAt_len hfew.out z
        have hsn := ehAt_snoc x pre z
        have hbd := ehAt_bound hfew.out pre
        have hll := lnE_len hfew.out z
        have hmany := fields_many hfitH.out
        rw [hlnz] at hll
        rw [hf] at hk hfv hsn
        have hTV := hT9.out.below (w' := V) (by rw [hB]; exact hM.be)
        have hof := ofF_any ln V (by omega) hTV.nm hTV.mx
        rw [hfl] at hof
        unfold fieldV at hof
        have hof' := Lib.hid (CallsIn.inRound l1 (callsIn_wide (n := 3 - 1 - 1 - 1).2 hof))
        obtain ⟨s, hs⟩ : ∃ s, ehAt x pre = s := ⟨_, rfl⟩
        rw [hs] at hM hsn hbd
        obtain ⟨kf, nf, vf⟩ := f
        obtain ⟨s0, s1, s2, s3, s4⟩ := s
        simp only at hk hfv hbd hof'
        have hM' := Lib.hid hM
        have hsn' := Lib.hid hsn
        have b1 : s2.length ≤ 30000000 := by
          have h1 := hbd.1
          have h2 : pre.length ≤ 70000 := by omega
          omega
        have b2 : s3 ≤ 70000 := by omega
        have b3 : s4 ≤ 70000 := by omega
        clear hln hlnz hf hfl hll hmany hTV hof hs hM hsn hbd hlen
        rcases hk with rfl | rfl | rfl | rfl
        · have hsn' := Lib.hid (hsn'.out.trans (show ehStep (s0, s1, s2, s3, s4) (5, nf, vf) = (vf, s1, s2, s3, s4) from rfl))
          gi_wp2_with (first
            | (gi_at_call 24; with_reducible refine hof'.out.mono ?_; rintro r W3 ⟨rfl, hb3⟩; have hb34 := Lib.hid (hb3.alloc hb3.size (.cells #[.int .i64 5, .string ⟨nf.toArray⟩, .string ⟨vf.toArray⟩] 53)); have hM4 := Lib.hid (hM'.out.below hb34.out); have k4 := Has.new W3 53 #[.int .i64 5, .string ⟨nf.toArray⟩, .string ⟨vf.toArray⟩]; have k0 := k4.cell 0; have k2 := k4.cell 2; have c0 : _ = _ := hM4.out.b0.cell 0; have c1 : World.cell? _ ⟨B + 1, 0, none⟩ = _ := hM4.out.b1.cell 0; have c2 : World.cell? _ ⟨B + 1 + 1, 0, none⟩ = _ := hM4.out.b2.cell 0; have c3 : World.cell? _ ⟨B + 1 + 1 + 1, 0, none⟩ = _ := hM4.out.b3.cell 0; have c4 : World.cell? _ ⟨B + 1 + 1 + 1 + 1, 0, none⟩ = _ := hM4.out.b4.cell 0; have g0 : World.frozen? _ ⟨B, 0, none⟩ = _ := hM4.out.b0.free 0; have g1 : World.frozen? _ ⟨B + 1, 0, none⟩ = _ := hM4.out.b1.free 0; have g2 : World.frozen? _ ⟨B + 1 + 1, 0, none⟩ = _ := hM4.out.b2.free 0; have g3 : World.frozen? _ ⟨B + 1 + 1 + 1, 0, none⟩ = _ := hM4.out.b3.free 0; have g4 : World.frozen? _ ⟨B + 1 + 1 + 1 + 1, 0, none⟩ = _ := hM4.out.b4.free 0; clear hb3 k4))
          refine ⟨((others_below hb34.out).trans (KeepsOthers.setCell _ _ _)).from _, ((KeepC.below hb34.out).setCell (p := ⟨B, 0, none⟩) (show B ≤ B ∧ B < B + 5 by omega) _), ?_⟩
          show EhM w9 B (ehAt x (pre ++ [z])) _
          rw [hsn'.out]
          exact hM4.out.set0 vf
        · have hsn' := Lib.hid (hsn'.out.trans (show ehStep (s0, s1, s2, s3, s4) (4, nf, vf) = (s0, vf, s2, s3, s4) from rfl))
          gi_wp2_with (first
            | (gi_at_call 24; with_reducible refine hof'.out.mono ?_; rintro r W3 ⟨rfl, hb3⟩; have hb34 := Lib.hid (hb3.alloc hb3.size (.cells #[.int .i64 4, .string ⟨nf.toArray⟩, .string ⟨vf.toArray⟩] 53)); have hM4 := Lib.hid (hM'.out.below hb34.out); have k4 := Has.new W3 53 #[.int .i64 4, .string ⟨nf.toArray⟩, .string ⟨vf.toArray⟩]; have k0 := k4.cell 0; have k2 := k4.cell 2; have c0 : _ = _ := hM4.out.b0.cell 0; have c1 : World.cell? _ ⟨B + 1, 0, none⟩ = _ := hM4.out.b1.cell 0; have c2 : World.cell? _ ⟨B + 1 + 1, 0, none⟩ = _ := hM4.out.b2.cell 0; have c3 : World.cell? _ ⟨B + 1 + 1 + 1, 0, none⟩ = _ := hM4.out.b3.cell 0; have c4 : World.cell? _ ⟨B + 1 + 1 + 1 + 1, 0, none⟩ = _ := hM4.out.b4.cell 0; have g0 : World.frozen? _ ⟨B, 0, none⟩ = _ := hM4.out.b0.free 0; have g1 : World.frozen? _ ⟨B + 1, 0, none⟩ = _ := hM4.out.b1.free 0; have g2 : World.frozen? _ ⟨B + 1 + 1, 0, none⟩ = _ := hM4.out.b2.free 0; have g3 : World.frozen? _ ⟨B + 1 + 1 + 1, 0, none⟩ = _ := hM4.out.b3.free 0; have g4 : World.frozen? _ ⟨B + 1 + 1 + 1 + 1, 0, none⟩ = _ := hM4.out.b4.free 0; clear hb3 k4))
          refine ⟨((others_below hb34.out).trans (KeepsOthers.setCell _ _ _)).from _, ((KeepC.below hb34.out).setCell (p := ⟨B + 1, 0, none⟩) (show B ≤ B + 1 ∧ B + 1 < B + 5 by omega) _), ?_⟩
          show EhM w9 B (ehAt x (pre ++ [z])) _
          rw [hsn'.out]
          exact hM4.out.set1 vf
        · by_cases h30 : s3 = 0
          · subst h30
            have hsn' := Lib.hid (hsn'.out.trans (show ehStep (s0, s1, s2, 0, s4) (3, nf, vf) = (s0, s1, s2 ++ vf, 1, s4) from rfl))
            have hcat := cat_b s2 vf
            gi_wp2_with (first
              | (gi_at_call 24; with_reducible refine hof'.out.mono ?_; rintro r W3 ⟨rfl, hb3⟩; have hb34 := Lib.hid (hb3.alloc hb3.size (.cells #[.int .i64 3, .string ⟨nf.toArray⟩, .string ⟨vf.toArray⟩] 53)); have hM4 := Lib.hid (hM'.out.below hb34.out); have k4 := Has.new W3 53 #[.int .i64 3, .string ⟨nf.toArray⟩, .string ⟨vf.toArray⟩]; have k0 := k4.cell 0; have k2 := k4.cell 2; have c0 : _ = _ := hM4.out.b0.cell 0; have c1 : World.cell? _ ⟨B + 1, 0, none⟩ = _ := hM4.out.b1.cell 0; have c2 : World.cell? _ ⟨B + 1 + 1, 0, none⟩ = _ := hM4.out.b2.cell 0; have c3 : World.cell? _ ⟨B + 1 + 1 + 1, 0, none⟩ = _ := hM4.out.b3.cell 0; have c4 : World.cell? _ ⟨B + 1 + 1 + 1 + 1, 0, none⟩ = _ := hM4.out.b4.cell 0; have g0 : World.frozen? _ ⟨B, 0, none⟩ = _ := hM4.out.b0.free 0; have g1 : World.frozen? _ ⟨B + 1, 0, none⟩ = _ := hM4.out.b1.free 0; have g2 : World.frozen? _ ⟨B + 1 + 1, 0, none⟩ = _ := hM4.out.b2.free 0; have g3 : World.frozen? _ ⟨B + 1 + 1 + 1, 0, none⟩ = _ := hM4.out.b3.free 0; have g4 : World.frozen? _ ⟨B + 1 + 1 + 1 + 1, 0, none⟩ = _ := hM4.out.b4.free 0; clear hb3 k4))
            refine ⟨(((others_below hb34.out).trans (KeepsOthers.setCell _ _ _)).trans (KeepsOthers.setCell _ _ _)).from _, (((KeepC.below hb34.out).setCell (p := ⟨B + 1 + 1, 0, none⟩) (show B ≤ B + 1 + 1 ∧ B + 1 + 1 < B + 5 by omega) _).setCell (p := ⟨B + 1 + 1 + 1, 0, none⟩) (show B ≤ B + 1 + 1 + 1 ∧ B + 1 + 1 + 1 < B + 5 by omega) _), ?_⟩
            show EhM w9 B (ehAt x (pre ++ [z])) _
            rw [hsn'.out]
            exact (hM4.out.set2 (s2 ++ vf)).set3 1
          · have hpos : (0 : Int) < (s3 : Int) := by omega
            have hsn' := Lib.hid (hsn'.out.trans (show ehStep (s0, s1, s2, s3, s4) (3, nf, vf) = (s0, s1, s2 ++ 10 :: vf, s3 + 1, s4) from by unfold ehStep; simp [show 0 < s3 by omega]))
            have hcat := cat_b s2 [10]
            have hcat2 := cat_b (s2 ++ [10]) vf
            gi_wp2_with (first
              | (gi_at_call 24; with_reducible refine hof'.out.mono ?_; rintro r W3 ⟨rfl, hb3⟩; have hb34 := Lib.hid (hb3.alloc hb3.size (.cells #[.int .i64 3, .string ⟨nf.toArray⟩, .string ⟨vf.toArray⟩] 53)); have hM4 := Lib.hid (hM'.out.below hb34.out); have k4 := Has.new W3 53 #[.int .i64 3, .string ⟨nf.toArray⟩, .string ⟨vf.toArray⟩]; have k0 := k4.cell 0; have k2 := k4.cell 2; have c0 : _ = _ := hM4.out.b0.cell 0; have c1 : World.cell? _ ⟨B + 1, 0, none⟩ = _ := hM4.out.b1.cell 0; have c2 : World.cell? _ ⟨B + 1 + 1, 0, none⟩ = _ := hM4.out.b2.cell 0; have c3 : World.cell? _ ⟨B + 1 + 1 + 1, 0, none⟩ = _ := hM4.out.b3.cell 0; have c4 : World.cell? _ ⟨B + 1 + 1 + 1 + 1, 0, none⟩ = _ := hM4.out.b4.cell 0; have g0 : World.frozen? _ ⟨B, 0, none⟩ = _ := hM4.out.b0.free 0; have g1 : World.frozen? _ ⟨B + 1, 0, none⟩ = _ := hM4.out.b1.free 0; have g2 : World.frozen? _ ⟨B + 1 + 1, 0, none⟩ = _ := hM4.out.b2.free 0; have g3 : World.frozen? _ ⟨B + 1 + 1 + 1, 0, none⟩ = _ := hM4.out.b3.free 0; have g4 : World.frozen? _ ⟨B + 1 + 1 + 1 + 1, 0, none⟩ = _ := hM4.out.b4.free 0; have hM5 := Lib.hid (hM4.out.set2 (s2 ++ [10])); have e2 : World.cell? _ ⟨B + 1 + 1, 0, none⟩ = _ := hM5.out.b2.cell 0; clear hb3 k4))
            refine ⟨((((others_below hb34.out).trans (KeepsOthers.setCell _ _ _)).trans (KeepsOthers.setCell _ _ _)).trans (KeepsOthers.setCell _ _ _)).from _, ((((KeepC.below hb34.out).setCell (p := ⟨B + 1 + 1, 0, none⟩) (show B ≤ B + 1 + 1 ∧ B + 1 + 1 < B + 5 by omega) _).setCell (p := ⟨B + 1 + 1, 0, none⟩) (show B ≤ B + 1 + 1 ∧ B + 1 + 1 < B + 5 by omega) _).setCell (p := ⟨B + 1 + 1 + 1, 0, none⟩) (show B ≤ B + 1 + 1 + 1 ∧ B + 1 + 1 + 1 < B + 5 by omega) _), ?_⟩
            show EhM w9 B (ehAt x (pre ++ [z])) _
            rw [hsn'.out]
            exact ((hM4.out.set2 (s2 ++ [10])).set2 (s2 ++ 10 :: vf)).set3 (s3 + 1)
        · have hsn' := Lib.hid (hsn'.out.trans (show ehStep (s0, s1, s2, s3, s4) (1, nf, vf) = (s0, s1, s2, s3, s4 + 1) from rfl))
          gi_wp2_with (first
            | (gi_at_call 24; with_reducible refine hof'.out.mono ?_; rintro r W3 ⟨rfl, hb3⟩; have hb34 := Lib.hid (hb3.alloc hb3.size (.cells #[.int .i64 1, .string ⟨nf.toArray⟩, .string ⟨vf.toArray⟩] 53)); have hM4 := Lib.hid (hM'.out.below hb34.out); have k4 := Has.new W3 53 #[.int .i64 1, .string ⟨nf.toArray⟩, .string ⟨vf.toArray⟩]; have k0 := k4.cell 0; have k2 := k4.cell 2; have c0 : _ = _ := hM4.out.b0.cell 0; have c1 : World.cell? _ ⟨B + 1, 0, none⟩ = _ := hM4.out.b1.cell 0; have c2 : World.cell? _ ⟨B + 1 + 1, 0, none⟩ = _ := hM4.out.b2.cell 0; have c3 : World.cell? _ ⟨B + 1 + 1 + 1, 0, none⟩ = _ := hM4.out.b3.cell 0; have c4 : World.cell? _ ⟨B + 1 + 1 + 1 + 1, 0, none⟩ = _ := hM4.out.b4.cell 0; have g0 : World.frozen? _ ⟨B, 0, none⟩ = _ := hM4.out.b0.free 0; have g1 : World.frozen? _ ⟨B + 1, 0, none⟩ = _ := hM4.out.b1.free 0; have g2 : World.frozen? _ ⟨B + 1 + 1, 0, none⟩ = _ := hM4.out.b2.free 0; have g3 : World.frozen? _ ⟨B + 1 + 1 + 1, 0, none⟩ = _ := hM4.out.b3.free 0; have g4 : World.frozen? _ ⟨B + 1 + 1 + 1 + 1, 0, none⟩ = _ := hM4.out.b4.free 0; clear hb3 k4))
          refine ⟨((others_below hb34.out).trans (KeepsOthers.setCell _ _ _)).from _, ((KeepC.below hb34.out).setCell (p := ⟨B + 1 + 1 + 1 + 1, 0, none⟩) (show B ≤ B + 1 + 1 + 1 + 1 ∧ B + 1 + 1 + 1 + 1 < B + 5 by omega) _), ?_⟩
          show EhM w9 B (ehAt x (pre ++ [z])) _
          rw [hsn'.out]
          exact hM4.out.set4 (s4 + 1)
      case rest0 =>
        intro D W hD hM hDn
        have hWB := hM.b4.lt
        have hx10 := hx9.out.below hM.be (by omega)
        have hr10 := hr9.out.below hM.be (by omega)
        have hbW := Lib.hid (hbB.out.trans (hM.be.mono (by omega)))
        have x0 := hx10.cell 0
        have x1 := hx10.cell 1
        have x2 := hx10.cell 2
        have c0 : World.cell? _ ⟨B, 0, none⟩ = _ := hM.b0.cell 0
        have c1 : World.cell? _ ⟨B + 1, 0, none⟩ = _ := hM.b1.cell 0
        have c2 : World.cell? _ ⟨B + 1 + 1, 0, none⟩ = _ := hM.b2.cell 0
        have c3 : World.cell? _ ⟨B + 1 + 1 + 1, 0, none⟩ = _ := hM.b3.cell 0
        have c4 : World.cell? _ ⟨B + 1 + 1 + 1 + 1, 0, none⟩ = _ := hM.b4.cell 0
        have hpp := List.length_pos_iff.2 (partsL_ne x.2.2)
        obtain ⟨P, hP⟩ : ∃ P, (partsL x.2.2).length = P := ⟨_, rfl⟩
        simp only [hP] at c3 hpp
        have hppI : (0 : Int) < (P : Int) := by omega
        have hr10' := Lib.hid hr10
        have hDn' := Lib.hid hDn
        clear hM hP hx10 hr10 hDn hpp
        gi_wp2_with fail
        go_wp2_with (go_at_call 8; (with_reducible refine Calls.mono (hwk.out _ hbW.out) ?_); rintro r w19 ⟨rfl, hc19, hb19⟩; have hb19' := Lib.hid hb19; have hr19 := Lib.hid (hr10'.out.below hc19 hr10'.out.lt); have hd19 := Lib.hid (hDn'.out.below hc19 hDn'.out.lt); have r0 := hr19.out.cell 0; have e0 := hr19.out.free 0; clear hc19 hb19)
        have k1 := hd19.out.set (i := 0) hr19.out (.bool true)
        refine ⟨by simp, .inl ⟨_, _, rfl, run_takeDeferred k1, ?_⟩⟩
        have r1 := ((hr19.out.put 0 (.bool true)).put_obj (.deferred none) (l := D) (by omega)).cell 0
        refine ⟨.bool true, ?_, rfl, ?_⟩
        · simp [results, Tryz.results6, go_sem, r1]
        · exact (hb19'.out.setCell (p := ⟨w.heap.size + 1 + 1, 0, none⟩) (by simp; omega) _).trans (belowK_b (w := w) (Nat.le_refl _) _ D _ _ (by omega) k1 rfl rfl)
    · clear hn67 hn7' hn6' hex hey heq
      go_wp2_with (first
        | (go_at_call 14; (with_reducible refine Calls.mono (numE_any _ _) ?_); rintro r w15 ⟨rfl, rfl⟩)
        | (go_at_call 8; (with_reducible refine Calls.mono (hwk.out _ hb8'.out) ?_); rintro r w9 ⟨rfl, hc9, hb9⟩; have hb9' := Lib.hid hb9; have hr9 := Lib.hid (hr8.out.below hc9 hr8.out.lt); have r0 := hr9.out.cell 0; have g0 := hr9.out.free 0; have r1 := (hr9.out.put 0 (.bool true)).cell 0; clear hc9 hb9))
      refine ⟨.bool true, ?_, rfl, hb9'.out.setCell (p := ⟨w.heap.size + 1 + 1, 0, none⟩) (by simp; omega) _⟩
      simp [results, Tryz.results6, go_sem, r1]
end Go.Proofs.YtlbiniibkbhghaaGreatDoor
