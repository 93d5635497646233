import Derived.Test.YtlbiniibkbhghaaDoorPk6
import Derived.BigQuiet
import Derived.ScopeJumps
namespace Go.Proofs.YtlbiniibkbhghaaDoor
open Go.RowKit Go.Maps

/-! ## The line of what is said -/
def betw (f : Int × List UInt8 × List UInt8) : List UInt8 := if f.1 = 2 then [58] else if f.2.2 = [] then [] else [58, 32]
def lineF (f : Int × List UInt8 × List UInt8) : List UInt8 := f.2.1 ++ betw f ++ f.2.2
theorem joinS (k : Nat) (a b c : List UInt8) (w : World) (hw : Has w k 9 #[.string ⟨a.toArray⟩, .string ⟨b.toArray⟩, .string ⟨c.toArray⟩]) (h : a.length + b.length + c.length ≤ 10000000) :
    Calls Tryd.prog 123 #[.slice (some ⟨k, 0, none⟩) 3 3, .string ⟨#[]⟩] w fun e w' => e = .returned (.string ⟨(a ++ b ++ c).toArray⟩) ∧ Below w.heap.size w w' := by
  have hj : Lib.join [a, b, c] [] = a ++ b ++ c := by simp [Lib.join, List.intercalate, List.intersperse]
  have := Tryd.strings_Join k 0 3 [⟨a.toArray⟩, ⟨b.toArray⟩, ⟨c.toArray⟩] ⟨#[]⟩ w (fun j x hx => by
    rw [Nat.zero_add, hw.cell]
    match j, hx with
    | 0, hx => simp at hx; subst hx; simp
    | 1, hx => simp at hx; subst hx; simp
    | 2, hx => simp at hx; subst hx; simp
    | j + 3, hx => simp at hx) hw.lt (by simp) (by simp) (by simp [Lib.join, List.intercalate, List.intersperse]; omega)
  simp only [List.map_cons, List.map_nil] at this
  simp only [hj] at this
  exact this
def WriteF (B k : Nat) (f : Int × List UInt8 × List UInt8) (w : World) (e : Ending) (w' : World) : Prop := e = .returned (.tuple #[]) ∧ Has w' k 103 (undCells f (lineF f)) ∧ Below B w w'
set_option maxRecDepth 100000 in
theorem writeF_any (B k : Nat) (f : Int × List UInt8 × List UInt8) (l : List UInt8) (w : World) (hk : Has w k 103 (undCells f l)) (h1 : f.2.1.length ≤ 1000000) (h2 : f.2.2.length ≤ 1000000) (hB : B ≤ k) :
    Calls Tryd.prog 76 #[.pointer (some ⟨k, 0, none⟩)] w (WriteF B k f w) := by
  obtain ⟨ki, nm, vl⟩ := f
  simp only at h1 h2
  obtain ⟨bt, hbt⟩ : ∃ bt, betw (ki, nm, vl) = bt := ⟨_, rfl⟩
  have hbl : bt.length ≤ 2 := by rw [← hbt]; unfold betw; split; · simp
                                 split <;> simp
  have c0 := hk.cell 0
  have c2 := hk.cell 2
  simp [undCells] at c0 c2
  have hkl := hk.lt
  have hlf : lineF (ki, nm, vl) = nm ++ bt ++ vl := by unfold lineF; rw [hbt]
  have hall := Lib.hid (fun (W : World) (l' : List UInt8) (h : Has W k 103 (undCells (ki, nm, vl) l')) => show W.cell? ⟨k, 1, none⟩ = some (.string ⟨nm.toArray⟩) ∧ W.cell? ⟨k, 2, none⟩ = some (.string ⟨vl.toArray⟩) from ⟨h.cell 1, h.cell 2⟩)
  have hk0 := Lib.hid (show Has w.drew k 103 (undCells (ki, nm, vl) l) from hk)
  have hbt' := Lib.hid hbt
  have hlf' := Lib.hid hlf
  clear hk hbt hlf
  by_cases h3 : ki = 2
  · subst h3
    obtain rfl : bt = [58] := by rw [← hbt'.out]; rfl
    have hk1 := Lib.hid (show Has (w.alloc (.cells #[.string ⟨nm.toArray⟩, .string ⟨#[58]⟩, .string ⟨vl.toArray⟩] 9)).drew k 103 (undCells (2, nm, vl) l) from Has.alloc (W := w) hk0.out _)
    have hb1 := Lib.hid (show Below B w (w.alloc (.cells #[.string ⟨nm.toArray⟩, .string ⟨#[58]⟩, .string ⟨vl.toArray⟩] 9)).drew from ((Below.refl B w).alloc (by omega) _).drew)
    have hjn := Lib.hid (joinS w.heap.size nm [58] vl (w.alloc (.cells #[.string ⟨nm.toArray⟩, .string ⟨#[58]⟩, .string ⟨vl.toArray⟩] 9)).drew (Has.new w _ _) (by simp; omega))
    clear hbt'
    go_enter Tryd.func76, Tryd.ntmps76
    go_wp2
    go_region_held3 (fun W => W.cell? ⟨k, 1, none⟩ = some (.string ⟨nm.toArray⟩) ∧ W.cell? ⟨k, 2, none⟩ = some (.string ⟨vl.toArray⟩))
      (first
      | with_reducible exact hall.out _ _ hk0.out
      | with_reducible exact hall.out _ _ hk1.out
      | with_reducible exact hall.out _ _ hk2.out
      | with_reducible exact hs3.out _
      | fail)
      (first
      | (go_at_call 123; (with_reducible refine Calls.mono hjn.out ?_); rintro e w2 ⟨rfl, hb2⟩; have hk2 := Lib.hid (hk1.out.below hb2 hk1.out.lt); have f3 := hk2.out.free 3; have g3 := hk2.out.cell 3; have hs3 := Lib.hid (fun (v : Value) => show (w2.setCell ⟨k, 3, none⟩ v).cell? ⟨k, 1, none⟩ = some (.string ⟨nm.toArray⟩) ∧ (w2.setCell ⟨k, 3, none⟩ v).cell? ⟨k, 2, none⟩ = some (.string ⟨vl.toArray⟩) from ⟨(hk2.out.put 3 v).cell 1, (hk2.out.put 3 v).cell 2⟩); have hb2' := Lib.hid (hb1.out.trans (hb2.mono (Nat.le_trans (by omega) hb1.out.size))); clear hb2)
      | fail)
    go_wp2
    refine bodyPost_end (results_none rfl _ _ _) rfl ⟨rfl, ?_, hb2'.out.setCell (p := ⟨k, 3, none⟩) hB _⟩
    rw [hlf'.out, show nm ++ [58] ++ vl = nm ++ 58 :: vl from by simp]
    exact hk2.out.put 3 (.string ⟨(nm ++ 58 :: vl).toArray⟩)
  · have h3i : ¬ (ki : Int) = 2 := by omega
    by_cases h4 : vl = []
    · subst h4
      obtain rfl : bt = [] := by rw [← hbt'.out]; unfold betw; rw [if_neg h3]; rfl
      have hk1 := Lib.hid (show Has (w.alloc (.cells #[.string ⟨nm.toArray⟩, .string ⟨#[]⟩, .string ⟨#[]⟩] 9)).drew k 103 (undCells (ki, nm, []) l) from Has.alloc (W := w) hk0.out _)
      have hb1 := Lib.hid (show Below B w (w.alloc (.cells #[.string ⟨nm.toArray⟩, .string ⟨#[]⟩, .string ⟨#[]⟩] 9)).drew from ((Below.refl B w).alloc (by omega) _).drew)
      have hjn := Lib.hid (joinS w.heap.size nm ([] : List UInt8) [] (w.alloc (.cells #[.string ⟨nm.toArray⟩, .string ⟨#[]⟩, .string ⟨#[]⟩] 9)).drew (Has.new w _ _) (by simp; omega))
      clear hbt'
      go_enter Tryd.func76, Tryd.ntmps76
      go_wp2
      go_region_held3 (fun W => W.cell? ⟨k, 1, none⟩ = some (.string ⟨nm.toArray⟩) ∧ W.cell? ⟨k, 2, none⟩ = some (.string ⟨#[]⟩))
        (first
        | with_reducible exact hall.out _ _ hk0.out
        | with_reducible exact hall.out _ _ hk1.out
        | with_reducible exact hall.out _ _ hk2.out
        | with_reducible exact hs3.out _
        | fail)
        (first
        | (go_at_call 123; (with_reducible refine Calls.mono hjn.out ?_); rintro e w2 ⟨rfl, hb2⟩; have hk2 := Lib.hid (hk1.out.below hb2 hk1.out.lt); have f3 := hk2.out.free 3; have g3 := hk2.out.cell 3; have hs3 := Lib.hid (fun (v : Value) => show (w2.setCell ⟨k, 3, none⟩ v).cell? ⟨k, 1, none⟩ = some (.string ⟨nm.toArray⟩) ∧ (w2.setCell ⟨k, 3, none⟩ v).cell? ⟨k, 2, none⟩ = some (.string ⟨#[]⟩) from ⟨(hk2.out.put 3 v).cell 1, (hk2.out.put 3 v).cell 2⟩); have hb2' := Lib.hid (hb1.out.trans (hb2.mono (Nat.le_trans (by omega) hb1.out.size))); clear hb2)
        | fail)
      go_wp2
      refine bodyPost_end (results_none rfl _ _ _) rfl ⟨rfl, ?_, hb2'.out.setCell (p := ⟨k, 3, none⟩) hB _⟩
      rw [hlf'.out, show nm ++ ([] : List UInt8) ++ [] = nm from by simp]
      exact hk2.out.put 3 (.string ⟨nm.toArray⟩)
    · have hie : vl.isEmpty = false := by
        cases vl with
        | nil => exact absurd rfl h4
        | cons x r => rfl
      obtain rfl : bt = [58, 32] := by rw [← hbt'.out]; unfold betw; rw [if_neg h3, if_neg h4]
      have hk1 := Lib.hid (show Has (w.alloc (.cells #[.string ⟨nm.toArray⟩, .string ⟨#[58, 32]⟩, .string ⟨vl.toArray⟩] 9)).drew k 103 (undCells (ki, nm, vl) l) from Has.alloc (W := w) hk0.out _)
      have hb1 := Lib.hid (show Below B w (w.alloc (.cells #[.string ⟨nm.toArray⟩, .string ⟨#[58, 32]⟩, .string ⟨vl.toArray⟩] 9)).drew from ((Below.refl B w).alloc (by omega) _).drew)
      have hjn := Lib.hid (joinS w.heap.size nm [58, 32] vl (w.alloc (.cells #[.string ⟨nm.toArray⟩, .string ⟨#[58, 32]⟩, .string ⟨vl.toArray⟩] 9)).drew (Has.new w _ _) (by simp; omega))
      clear hbt'
      go_enter Tryd.func76, Tryd.ntmps76
      go_wp2
      go_region_held3 (fun W => W.cell? ⟨k, 1, none⟩ = some (.string ⟨nm.toArray⟩) ∧ W.cell? ⟨k, 2, none⟩ = some (.string ⟨vl.toArray⟩))
        (first
        | with_reducible exact hall.out _ _ hk0.out
        | with_reducible exact hall.out _ _ hk1.out
        | with_reducible exact hall.out _ _ hk2.out
        | with_reducible exact hs3.out _
        | fail)
        (first
        | (go_at_call 123; (with_reducible refine Calls.mono hjn.out ?_); rintro e w2 ⟨rfl, hb2⟩; have hk2 := Lib.hid (hk1.out.below hb2 hk1.out.lt); have f3 := hk2.out.free 3; have g3 := hk2.out.cell 3; have hs3 := Lib.hid (fun (v : Value) => show (w2.setCell ⟨k, 3, none⟩ v).cell? ⟨k, 1, none⟩ = some (.string ⟨nm.toArray⟩) ∧ (w2.setCell ⟨k, 3, none⟩ v).cell? ⟨k, 2, none⟩ = some (.string ⟨vl.toArray⟩) from ⟨(hk2.out.put 3 v).cell 1, (hk2.out.put 3 v).cell 2⟩); have hb2' := Lib.hid (hb1.out.trans (hb2.mono (Nat.le_trans (by omega) hb1.out.size))); clear hb2)
        | fail)
      go_wp2
      refine bodyPost_end (results_none rfl _ _ _) rfl ⟨rfl, ?_, hb2'.out.setCell (p := ⟨k, 3, none⟩) hB _⟩
      rw [hlf'.out, show nm ++ [58, 32] ++ vl = nm ++ 58 :: 32 :: vl from by simp]
      exact hk2.out.put 3 (.string ⟨(nm ++ 58 :: 32 :: vl).toArray⟩)
end Go.Proofs.YtlbiniibkbhghaaDoor

namespace Go.Proofs.YtlbiniibkbhghaaDoor
open Go.RowKit Go.Maps

/-! ## Does some text say it? Line -/
def hasColon (l : List UInt8) : Bool := decide (0 ≤ Lib.indexByte l 58)
def sayF (f : Int × List UInt8 × List UInt8) : Bool :=
  if f.1 = 1 then decide (f.2.1 = [] ∧ f.2.2 = []) else if f.1 = 2 then decide (f.2.1 = []) else decide (f.2.1 ≠ [] ∧ hasColon f.2.1 = false ∧ (kindK f.2.1 : Int) = f.1)
theorem isE {l : List UInt8} (h : l ≠ []) : l.isEmpty = false := by
  cases l with
  | nil => exact absurd rfl h
  | cons x r => rfl
def SayF (f : Int × List UInt8 × List UInt8) (w : World) (e : Ending) (w' : World) : Prop := e = .returned (.bool (sayF f)) ∧ Below w.heap.size w w'
set_option maxRecDepth 100000 in
theorem sayF_any (k : Nat) (f : Int × List UInt8 × List UInt8) (l : List UInt8) (w : World) (hk : Has w k 103 (undCells f l)) (h1 : f.2.1.length ≤ 1000000) (hN : NamesT w) :
    Calls Tryd.prog 75 #[.pointer (some ⟨k, 0, none⟩)] w (SayF f w) := by
  obtain ⟨ki, nm, vl⟩ := f
  simp only at h1
  have c0 := hk.cell 0
  have c1 := hk.cell 1
  have c2 := hk.cell 2
  simp [undCells] at c0 c1 c2
  by_cases k1 : ki = 1
  · subst k1
    have hs : sayF (1, nm, vl) = decide (nm = [] ∧ vl = []) := rfl
    have hs' := Lib.hid hs
    clear hk hN hs
    by_cases e1 : nm = []
    · subst e1
      by_cases e2 : vl = []
      · subst e2
        go_enter Tryd.func75, Tryd.ntmps75
        go_wp2
        go_ret
        exact ⟨by rw [hs'.out]; rfl, Below.refl _ _⟩
      · have hie := isE e2
        go_enter Tryd.func75, Tryd.ntmps75
        go_wp2
        go_ret
        exact ⟨by rw [hs'.out, decide_eq_false (fun h => e2 h.2)]; rfl, Below.refl _ _⟩
    · have hie := isE e1
      go_enter Tryd.func75, Tryd.ntmps75
      go_wp2
      go_ret
      exact ⟨by rw [hs'.out, decide_eq_false (fun h => e1 h.1)]; rfl, Below.refl _ _⟩
  by_cases k2 : ki = 2
  · subst k2
    have hs : sayF (2, nm, vl) = decide (nm = []) := rfl
    have hs' := Lib.hid hs
    clear hk hN hs
    by_cases e1 : nm = []
    · subst e1
      go_enter Tryd.func75, Tryd.ntmps75
      go_wp2
      go_ret
      exact ⟨by rw [hs'.out]; rfl, Below.refl _ _⟩
    · have hie := isE e1
      go_enter Tryd.func75, Tryd.ntmps75
      go_wp2
      go_ret
      exact ⟨by rw [hs'.out, decide_eq_false e1]; rfl, Below.refl _ _⟩
  · have hs : sayF (ki, nm, vl) = decide (nm ≠ [] ∧ hasColon nm = false ∧ (kindK nm : Int) = ki) := by unfold sayF; rw [if_neg k1, if_neg k2]
    have hs' := Lib.hid hs
    have hkl := hk.lt
    have hall := Lib.hid (fun (W : World) (h : Below w.heap.size w W) => show W.cell? ⟨k, 0, none⟩ = some (.int .i64 ki) ∧ W.cell? ⟨k, 1, none⟩ = some (.string ⟨nm.toArray⟩) from ⟨(hk.below h hk.lt).cell 0, (hk.below h hk.lt).cell 1⟩)
    have hb0 := Lib.hid (Below.refl w.heap.size w).drew
    have hct := Lib.hid (fun W => Tryd.strings_Contains_one ⟨nm.toArray⟩ 58 W)
    rw [show (ByteArray.mk nm.toArray).data.toList = nm from by simp] at hct
    have hko := Lib.hid (fun W (h : Below w.heap.size w W) => kindOf_any ⟨nm.toArray⟩ W (by show nm.toArray.size ≤ _; simp [maxLen]; omega) (hN.below h))
    rw [show (ByteArray.mk nm.toArray).data.toList = nm from by simp] at hko
    clear hk hN hs
    by_cases e1 : nm = []
    · subst e1
      go_enter Tryd.func75, Tryd.ntmps75
      go_wp2
      go_quiet (fail)
      go_wp2
      go_ret
      exact ⟨by rw [hs'.out, decide_eq_false (fun h => h.1 rfl)]; rfl, below_draws (Below.refl _ _) _⟩
    · have hie := isE e1
      cases hc : hasColon nm with
      | true =>
        rw [show decide (0 ≤ Lib.indexByte nm 58) = true from hc] at hct
        go_enter Tryd.func75, Tryd.ntmps75
        go_wp2
        go_quiet ((go_at_call 122; exact Calls.quiet_of_same (hct.out _)))
        go_wp2
        go_ret
        exact ⟨by rw [hs'.out, decide_eq_false (fun h => by rw [hc] at h; cases h.2.1)]; rfl, below_draws (Below.refl _ _) _⟩
      | false =>
        rw [show decide (0 ≤ Lib.indexByte nm 58) = false from hc] at hct
        go_enter Tryd.func75, Tryd.ntmps75
        go_wp2
        go_region_held3 (fun W => W.cell? ⟨k, 0, none⟩ = some (.int .i64 ki) ∧ W.cell? ⟨k, 1, none⟩ = some (.string ⟨nm.toArray⟩))
          (first
          | with_reducible exact hall.out _ hb2'.out
          | with_reducible exact hall.out _ hb0.out
          | fail)
          (first
          | (go_at_call 122; (with_reducible refine Calls.mono (hct.out _) ?_); rintro e w1 ⟨rfl, rfl⟩)
          | (go_at_call 120; (with_reducible refine Calls.mono (hko.out _ hb0.out) ?_); rintro e w2 ⟨rfl, hb2⟩; have hb2' := Lib.hid (hb0.out.trans hb2); clear hb2)
          | fail)
        go_wp2
        go_ret
        refine ⟨?_, hb2'.out⟩
        rw [hs'.out]
        show Ending.returned (.bool ((kindK nm : Int) == ki)) = Ending.returned (.bool (decide (nm ≠ [] ∧ hasColon nm = false ∧ (kindK nm : Int) = ki)))
        have : ((kindK nm : Int) == ki) = decide (nm ≠ [] ∧ hasColon nm = false ∧ (kindK nm : Int) = ki) := by
          rw [hc]
          by_cases h : (kindK nm : Int) = ki <;> simp [h, e1]
        rw [this]
end Go.Proofs.YtlbiniibkbhghaaDoor

namespace Go.Proofs.YtlbiniibkbhghaaDoor
open Go.RowKit Go.Maps

/-! ## Line -/
theorem wp_scope_onF {P : Program} {a : Act} {w : World} {Q : Exit → Act → World → Prop} {c rest : Code} (l : Nat) (hf : findLabel c l = some rest)
    (first : c.wp P (Exit.jump l (fun a w => rest.wp P (Exit.noGoto Q) a w) Q) a w) : (Code.scope c).wp P Q a w := by
  refine wp_scope_jumps l (fun a w => rest.wp P (Exit.noGoto Q) a w) (fun _ _ => 0) hf first (fun a w h => wp_mono h ?_)
  intro e a w hq
  cases e <;> first | exact hq.elim | exact hq
def lineOf (f : Int × List UInt8 × List UInt8) : List UInt8 × Int := if sayF f = true then (lineF f, 0) else ([], 2)
set_option maxRecDepth 100000 in
theorem lineF_any (f : Int × List UInt8 × List UInt8) (w : World) (h1 : f.2.1.length ≤ 1000000) (h2 : f.2.2.length ≤ 1000000) (hN : NamesT w) :
    Calls Tryd.prog 33 #[fieldV f] w fun e w' => e = .returned (.tuple #[.string ⟨(lineOf f).1.toArray⟩, .int .i64 (lineOf f).2]) ∧ Below w.heap.size w w' := by
  obtain ⟨ki, nm, vl⟩ := f
  simp only at h1 h2
  unfold fieldV
  simp only
  have hb1 : Below w.heap.size w ((w.alloc (.cells #[.int .i64 ki, .string ⟨nm.toArray⟩, .string ⟨vl.toArray⟩] 40)).alloc (.cells (undCells (ki, nm, vl) []) 103)) := ((Below.refl _ _).alloc (Nat.le_refl _) _).alloc (by simp) _
  have kU := Has.new (w.alloc (.cells #[.int .i64 ki, .string ⟨nm.toArray⟩, .string ⟨vl.toArray⟩] 40)) 103 (undCells (ki, nm, vl) [])
  simp only [World.size_alloc] at kU
  obtain ⟨w1, hw1⟩ : ∃ w1, (w.alloc (.cells #[.int .i64 ki, .string ⟨nm.toArray⟩, .string ⟨vl.toArray⟩] 40)).alloc (.cells (undCells (ki, nm, vl) []) 103) = w1 := ⟨_, rfl⟩
  have z1 : w1.heap.size = w.heap.size + 1 + 1 := by rw [← hw1]; simp
  rw [hw1] at hb1 kU
  have hw1' := Lib.hid hw1
  have hsy := Lib.hid (sayF_any (w.heap.size + 1) (ki, nm, vl) [] w1 kU h1 (hN.below hb1))
  have kU' := Lib.hid kU
  have hb1' := Lib.hid hb1
  have z1' := Lib.hid z1
  clear hw1 hb1 kU z1 hN
  have hlo : lineOf (ki, nm, vl) = if sayF (ki, nm, vl) = true then (lineF (ki, nm, vl), 0) else ([], 2) := rfl
  have hlo' := Lib.hid hlo
  clear hlo
  obtain ⟨sy, hsye⟩ : ∃ sy, sayF (ki, nm, vl) = sy := ⟨_, rfl⟩
  unfold SayF at hsy
  rw [hsye] at hsy hlo'
  clear hsye
  cases sy
  · rw [if_neg (by decide)] at hlo'
    rw [hlo'.out]
    go_enter Tryd.func33, Tryd.ntmps33
    go_wp2
    refine wp_scope_onF 0 rfl ?_
    go_upto_region 2 with (fail)
    rw [show (w.alloc (.cells #[.int .i64 ki, .string ⟨nm.toArray⟩, .string ⟨vl.toArray⟩] 40)).alloc (.cells #[.int .i64 ki, .string ⟨nm.toArray⟩, .string ⟨vl.toArray⟩, .string ⟨#[]⟩] 103) = w1 from hw1'.out]
    go_wp2_with (go_at_call 75; (with_reducible refine Calls.mono hsy.out ?_); rintro e w2 ⟨rfl, hb2⟩; have hb2' := Lib.hid hb2; clear hb2)
    go_step3
    refine ⟨rfl, ?_⟩
    go_wp2
    try rw [Exit.noGoto_ret]
    go_ret2
    exact ⟨rfl, hb1'.out.trans (hb2'.out.mono hb1'.out.size)⟩
  · rw [if_pos rfl] at hlo'
    rw [hlo'.out]
    go_enter Tryd.func33, Tryd.ntmps33
    go_wp2
    refine wp_scope_onF 0 rfl ?_
    go_upto_region 2 with (fail)
    rw [show (w.alloc (.cells #[.int .i64 ki, .string ⟨nm.toArray⟩, .string ⟨vl.toArray⟩] 40)).alloc (.cells #[.int .i64 ki, .string ⟨nm.toArray⟩, .string ⟨vl.toArray⟩, .string ⟨#[]⟩] 103) = w1 from hw1'.out]
    go_wp2_with (first
      | (go_at_call 75; (with_reducible refine Calls.mono hsy.out ?_); rintro e w2 ⟨rfl, hb2⟩; have hb2' := Lib.hid hb2; have hwr := Lib.hid (writeF_any (w.heap.size + 1) (w.heap.size + 1) (ki, nm, vl) [] w2 (kU'.out.below hb2 kU'.out.lt) h1 h2 (Nat.le_refl _)); clear hb2)
      | (go_at_call 76; (with_reducible refine Calls.mono hwr.out ?_); rintro e w3 ⟨rfl, hk3, hb3⟩; have x3 : w3.cell? ⟨w.heap.size + 1, 3, none⟩ = some (.string ⟨(lineF (ki, nm, vl)).toArray⟩) := hk3.cell 3; have hb3' := Lib.hid hb3; clear hk3 hb3))
    simp only [Exit.jump]
    go_ret2
    exact ⟨rfl, hb1'.out.trans ((hb2'.out.mono hb1'.out.size).trans (hb3'.out.mono (by omega)))⟩
end Go.Proofs.YtlbiniibkbhghaaDoor

namespace Go.Proofs.YtlbiniibkbhghaaDoor
open Go.RowKit Go.Maps

/-! ## Name; num -/
def nameF (z : Int) : List UInt8 := if z < 0 then [] else namesL.getD z.toNat []
set_option maxRecDepth 100000 in
theorem nameF_any (z : Int) (w : World) (hN : NamesT w) : Calls Tryd.prog 38 #[.int .i64 z] w fun e w' => e = .returned (.string ⟨(nameF z).toArray⟩) ∧ w = w' := by
  by_cases h0 : z < 0
  · have e : nameF z = [] := by unfold nameF; rw [if_pos h0]
    rw [e]
    clear hN e
    go_enter Tryd.func38, Tryd.ntmps38
    go_wp2
    go_ret
    exact ⟨rfl, rfl⟩
  · by_cases h8 : 8 ≤ z
    · have e : nameF z = [] := by
        unfold nameF
        rw [if_neg h0]
        rw [List.getD_eq_getElem?_getD, List.getElem?_eq_none (by show 8 ≤ z.toNat; omega)]
        rfl
      rw [e]
      clear hN e
      go_enter Tryd.func38, Tryd.ntmps38
      go_wp2
      go_ret
      exact ⟨rfl, rfl⟩
    · obtain ⟨n, rfl⟩ : ∃ n : Nat, z = (n : Int) := ⟨z.toNat, by omega⟩
      have hn : n < 8 := by omega
      obtain ⟨t, hn'⟩ := hN
      have e : nameF (n : Int) = namesL.getD n [] := by unfold nameF; rw [if_neg (by omega)]; rfl
      have hc : w.cell? ⟨1, n, none⟩ = some (.string ⟨(namesL.getD n []).toArray⟩) := by
        rw [cell_of_row w 1 n _ t (0, 0) hn']
        match n, hn with
        | 0, _ => rfl
        | 1, _ => rfl
        | 2, _ => rfl
        | 3, _ => rfl
        | 4, _ => rfl
        | 5, _ => rfl
        | 6, _ => rfl
        | 7, _ => rfl
      rw [e]
      have hlt : (n : Int) < 8 := by omega
      have hge : (0 : Int) ≤ (n : Int) := by omega
      clear hn' e h0 h8
      go_enter Tryd.func38, Tryd.ntmps38
      go_wp2
      go_ret
      exact ⟨rfl, rfl⟩
theorem numFd_any (e : Int) (w : World) : Calls Tryd.prog 37 #[.int .i64 e] w fun r w' => r = .returned (.int .i64 e) ∧ w = w' := by
  go_enter Tryd.func37, Tryd.ntmps37
  go_wp2
  go_ret
  exact ⟨rfl, rfl⟩
/-! ## What a line says is said by its Line -/
theorem index_one (l : List UInt8) (c : UInt8) : Lib.index l [c] = Lib.indexByte l c := by
  induction l with
  | nil => rfl
  | cons b r ih =>
    unfold Lib.index Lib.indexByte
    rw [ih]
    by_cases h : b = c
    · subst h; simp
    · have h' : ¬ c = b := fun e => h e.symm
      simp [h, h']
/-- Cut at the first colon. -/
def cutC : List UInt8 → List UInt8 × List UInt8 × Bool
  | [] => ([], [], false)
  | b :: r => if b = 58 then ([], r, true) else (b :: (cutC r).1, (cutC r).2.1, (cutC r).2.2)
theorem cut_cutC : ∀ (l : List UInt8), Lib.cut l [58] = cutC l
  | [] => rfl
  | b :: r => by
    have ih := cut_cutC r
    have hg := Lib.indexByte_ge r 58
    unfold Lib.cut at ih ⊢
    rw [index_one] at ih ⊢
    unfold cutC
    by_cases h : b = 58
    · subst h; simp [Lib.indexByte]
    · have hib : Lib.indexByte (b :: r) 58 = if Lib.indexByte r 58 = -1 then -1 else Lib.indexByte r 58 + 1 := by simp [Lib.indexByte, h]
      rw [hib, if_neg h, ← ih]
      by_cases h1 : Lib.indexByte r 58 = -1
      · simp [h1]
      · have h0 : 0 ≤ Lib.indexByte r 58 := by omega
        have h2 : (Lib.indexByte r 58 + 1).toNat = (Lib.indexByte r 58).toNat + 1 := by omega
        have h3 : 0 ≤ Lib.indexByte r 58 + 1 := by omega
        simp only [if_neg h1, if_pos h0, if_pos h3, h2]
        simp []
theorem cutC_no : ∀ (l : List UInt8), 58 ∉ (cutC l).1
  | [] => by simp [cutC]
  | b :: r => by
    unfold cutC
    split
    · simp
    · rename_i h
      simp only [List.mem_cons, not_or]
      exact ⟨fun e => h e.symm, cutC_no r⟩
theorem cutC_of : ∀ (a b : List UInt8), 58 ∉ a → cutC (a ++ 58 :: b) = (a, b, true)
  | [], b, _ => by simp [cutC]
  | x :: a, b, h => by
    simp only [List.mem_cons, not_or] at h
    simp only [List.cons_append, cutC]
    rw [if_neg (fun e => h.1 e.symm), cutC_of a b h.2]
theorem cutC_none : ∀ (a : List UInt8), 58 ∉ a → cutC a = (a, [], false)
  | [], _ => rfl
  | x :: a, h => by
    simp only [List.mem_cons, not_or] at h
    simp only [cutC]
    rw [if_neg (fun e => h.1 e.symm), cutC_none a h.2]
end Go.Proofs.YtlbiniibkbhghaaDoor

namespace Go.Proofs.YtlbiniibkbhghaaDoor
open Go.RowKit Go.Maps

/-! ## What a line says, some text says -/
theorem indexByte_no : ∀ (l : List UInt8), 58 ∉ l → Lib.indexByte l 58 = -1
  | [], _ => rfl
  | b :: r, h => by
    simp only [List.mem_cons, not_or] at h
    have hb : ¬ b = 58 := fun e => h.1 e.symm
    simp [Lib.indexByte, hb, indexByte_no r h.2]
theorem indexByte_yes : ∀ (l : List UInt8), 58 ∈ l → 0 ≤ Lib.indexByte l 58
  | [], h => absurd h (by simp)
  | b :: r, h => by
    by_cases hb : b = 58
    · simp [Lib.indexByte, hb]
    · have hr : 58 ∈ r := by
        rcases List.mem_cons.1 h with e | e
        · exact absurd e.symm hb
        · exact e
      have := indexByte_yes r hr
      simp only [Lib.indexByte, beq_iff_eq, hb, if_false]
      split <;> omega
theorem hasColon_iff (l : List UInt8) : hasColon l = false ↔ 58 ∉ l := by
  unfold hasColon
  constructor
  · intro h hm
    have := indexByte_yes l hm
    rw [decide_eq_true this] at h
    cases h
  · intro h
    rw [indexByte_no l h]
    rfl
theorem kindK_range (s : List UInt8) : 3 ≤ kindK s ∧ kindK s ≤ 7 := by
  unfold kindK
  (repeat' split) <;> omega
theorem fieldF_else {l : List UInt8} (h1 : l ≠ []) (h2 : l.head? ≠ some 58) : fieldF l = ((kindK (cutC l).1 : Int), (cutC l).1, Lib.trimPrefix (cutC l).2.1 [32]) ∧ (cutC l).1 ≠ [] := by
  cases l with
  | nil => exact absurd rfl h1
  | cons b r =>
    have hb : ¬ b = 58 := fun e => h2 (by simp [e])
    have hp : Lib.hasPrefix (b :: r) [58] = false := by (simp [Lib.hasPrefix, List.isPrefixOf]; exact fun e => hb e.symm)
    constructor
    · unfold fieldF
      rw [if_neg h1, hp, cut_cutC]
      rfl
    · unfold cutC
      rw [if_neg hb]
      simp
theorem fieldF_comment (r : List UInt8) : fieldF (58 :: r) = (2, [], r) := by
  unfold fieldF
  rw [if_neg (by simp)]
  have hp : Lib.hasPrefix (58 :: r) [58] = true := by simp [Lib.hasPrefix, List.isPrefixOf]
  rw [if_pos hp]
  simp [Lib.trimPrefix, Lib.hasPrefix, List.isPrefixOf]
theorem sayF_fieldF (l : List UInt8) : sayF (fieldF l) = true := by
  by_cases h1 : l = []
  · subst h1; rfl
  by_cases h2 : l.head? = some 58
  · cases l with
    | nil => exact absurd rfl h1
    | cons b r =>
      obtain rfl : b = 58 := by simpa using h2
      rw [fieldF_comment]
      rfl
  · obtain ⟨e, hne⟩ := fieldF_else h1 h2
    rw [e]
    have hk := kindK_range (cutC l).1
    unfold sayF
    simp only
    rw [if_neg (by omega), if_neg (by omega)]
    exact decide_eq_true ⟨hne, (hasColon_iff _).2 (cutC_no l), trivial⟩
theorem head_ne {nm : List UInt8} (h : nm ≠ []) (hn : 58 ∉ nm) (t : List UInt8) : (nm ++ t).head? ≠ some 58 := by
  cases nm with
  | nil => exact absurd rfl h
  | cons b r =>
    simp only [List.mem_cons, not_or] at hn
    simp only [List.cons_append, List.head?_cons, ne_eq, Option.some.injEq]
    exact fun e => hn.1 e.symm
/-- What is said is said by its Line, too. -/
theorem fieldF_lineF (f : Int × List UInt8 × List UInt8) (h : sayF f = true) : fieldF (lineF f) = f := by
  obtain ⟨ki, nm, vl⟩ := f
  unfold sayF at h
  simp only at h
  by_cases k1 : ki = 1
  · subst k1
    rw [if_pos rfl] at h
    obtain ⟨rfl, rfl⟩ := of_decide_eq_true h
    rfl
  · rw [if_neg k1] at h
    by_cases k2 : ki = 2
    · subst k2
      rw [if_pos rfl] at h
      obtain rfl := of_decide_eq_true h
      show fieldF (58 :: vl) = _
      exact fieldF_comment vl
    · rw [if_neg k2] at h
      obtain ⟨hn, hc, hk⟩ := of_decide_eq_true h
      have hno := (hasColon_iff nm).1 hc
      have hb : betw (ki, nm, vl) = if vl = [] then [] else [58, 32] := by unfold betw; rw [if_neg k2]
      unfold lineF
      rw [hb]
      simp only
      by_cases hv : vl = []
      · subst hv
        rw [if_pos rfl, List.append_nil, List.append_nil]
        obtain ⟨e, _⟩ := fieldF_else hn (by have := head_ne hn hno []; rwa [List.append_nil] at this)
        rw [e, cutC_none nm hno, hk]
        rfl
      · rw [if_neg hv]
        have he : nm ++ [58, 32] ++ vl = nm ++ 58 :: 32 :: vl := by simp
        rw [he]
        obtain ⟨e, _⟩ := fieldF_else (l := nm ++ 58 :: 32 :: vl) (by simp) (head_ne hn hno _)
        rw [e, cutC_of nm _ hno, hk]
        simp [Lib.trimPrefix, Lib.hasPrefix, List.isPrefixOf]
theorem lineF_inj (a b : List UInt8) : (fieldF a = fieldF b) ↔ (lineF (fieldF a) = lineF (fieldF b)) :=
  ⟨fun h => by rw [h], fun h => by rw [← fieldF_lineF _ (sayF_fieldF a), h, fieldF_lineF _ (sayF_fieldF b)]⟩
end Go.Proofs.YtlbiniibkbhghaaDoor
