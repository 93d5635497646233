import Derived.Test.YtdkmajmmhngdpaaDoorFdD
namespace Go.Proofs.YtdkmajmmhngdpaaDoor
open Go.RowKit Go.Maps

/-! ## The line of what is said -/
def betw (f : Int × List UInt8 × List UInt8) : List UInt8 := if f.1 = 2 then [58] else if f.2.2 = [] then [] else [58, 32]
def lineF (f : Int × List UInt8 × List UInt8) : List UInt8 := f.2.1 ++ betw f ++ f.2.2
theorem joinS (k : Nat) (a b c : List UInt8) (w : World) (hw : Has w k 9 #[.string ⟨a.toArray⟩, .string ⟨b.toArray⟩, .string ⟨c.toArray⟩]) (h : a.length + b.length + c.length ≤ 10000000) :
    Calls Tryd.prog 91 #[.slice (some ⟨k, 0, none⟩) 3 3, .string ⟨#[]⟩] w fun e w' => e = .returned (.string ⟨(a ++ b ++ c).toArray⟩) ∧ Below w.heap.size w w' := by
  have hj : Lib.join [a, b, c] [] = a ++ b ++ c := by simp [Lib.join, List.intercalate, List.intersperse]
  have := Tryd.strings_Join k 0 3 [⟨a.toArray⟩, ⟨b.toArray⟩, ⟨c.toArray⟩] ⟨#[]⟩ w (fun j x hx => by
    rw [Nat.zero_add, hw.cell]
    match j, hx with
    | 0, hx => simp at hx; subst hx; simp
    | 1, hx => simp at hx; subst hx; simp
    | 2, hx => simp at hx; subst hx; simp
    | j + 3, hx => simp at hx) hw.lt (by simp) (by simp) (by simp [Lib.join, List.intercalate, List.intersperse]; omega)
  simp only [List.map_cons, List.map_nil] at this
  simp only [hj] at this
  exact this
def WriteF (B k : Nat) (f : Int × List UInt8 × List UInt8) (w : World) (e : Ending) (w' : World) : Prop := e = .returned (.tuple #[]) ∧ Has w' k 81 (undCells f (lineF f)) ∧ Below B w w'
set_option maxRecDepth 100000 in
theorem writeF_any (B k : Nat) (f : Int × List UInt8 × List UInt8) (l : List UInt8) (w : World) (hk : Has w k 81 (undCells f l)) (h1 : f.2.1.length ≤ 1000000) (h2 : f.2.2.length ≤ 1000000) (hB : B ≤ k) :
    Calls Tryd.prog 59 #[.pointer (some ⟨k, 0, none⟩)] w (WriteF B k f w) := by
  obtain ⟨ki, nm, vl⟩ := f
  simp only at h1 h2
  obtain ⟨bt, hbt⟩ : ∃ bt, betw (ki, nm, vl) = bt := ⟨_, rfl⟩
  have hbl : bt.length ≤ 2 := by rw [← hbt]; unfold betw; split; · simp
                                 split <;> simp
  have c0 := hk.cell 0
  have c2 := hk.cell 2
  simp [undCells] at c0 c2
  have hkl := hk.lt
  have hlf : lineF (ki, nm, vl) = nm ++ bt ++ vl := by unfold lineF; rw [hbt]
  have hall := Lib.hid (fun (W : World) (l' : List UInt8) (h : Has W k 81 (undCells (ki, nm, vl) l')) => show W.cell? ⟨k, 1, none⟩ = some (.string ⟨nm.toArray⟩) ∧ W.cell? ⟨k, 2, none⟩ = some (.string ⟨vl.toArray⟩) from ⟨h.cell 1, h.cell 2⟩)
  have hk0 := Lib.hid (show Has w.drew k 81 (undCells (ki, nm, vl) l) from hk)
  have hbt' := Lib.hid hbt
  have hlf' := Lib.hid hlf
  clear hk hbt hlf
  by_cases h3 : ki = 2
  · subst h3
    obtain rfl : bt = [58] := by rw [← hbt'.out]; rfl
    have hk1 := Lib.hid (show Has (w.alloc (.cells #[.string ⟨nm.toArray⟩, .string ⟨#[58]⟩, .string ⟨vl.toArray⟩] 9)).drew k 81 (undCells (2, nm, vl) l) from Has.alloc (W := w) hk0.out _)
    have hb1 := Lib.hid (show Below B w (w.alloc (.cells #[.string ⟨nm.toArray⟩, .string ⟨#[58]⟩, .string ⟨vl.toArray⟩] 9)).drew from ((Below.refl B w).alloc (by omega) _).drew)
    have hjn := Lib.hid (joinS w.heap.size nm [58] vl (w.alloc (.cells #[.string ⟨nm.toArray⟩, .string ⟨#[58]⟩, .string ⟨vl.toArray⟩] 9)).drew (Has.new w _ _) (by simp; omega))
    clear hbt'
    go_enter Tryd.func59, Tryd.ntmps59
    go_wp2
    go_region_held3 (fun W => W.cell? ⟨k, 1, none⟩ = some (.string ⟨nm.toArray⟩) ∧ W.cell? ⟨k, 2, none⟩ = some (.string ⟨vl.toArray⟩))
      (first
      | with_reducible exact hall.out _ _ hk0.out
      | with_reducible exact hall.out _ _ hk1.out
      | with_reducible exact hall.out _ _ hk2.out
      | with_reducible exact hs3.out _
      | fail)
      (first
      | (go_at_call 91; (with_reducible refine Calls.mono hjn.out ?_); rintro e w2 ⟨rfl, hb2⟩; have hk2 := Lib.hid (hk1.out.below hb2 hk1.out.lt); have f3 := hk2.out.free 3; have g3 := hk2.out.cell 3; have hs3 := Lib.hid (fun (v : Value) => show (w2.setCell ⟨k, 3, none⟩ v).cell? ⟨k, 1, none⟩ = some (.string ⟨nm.toArray⟩) ∧ (w2.setCell ⟨k, 3, none⟩ v).cell? ⟨k, 2, none⟩ = some (.string ⟨vl.toArray⟩) from ⟨(hk2.out.put 3 v).cell 1, (hk2.out.put 3 v).cell 2⟩); have hb2' := Lib.hid (hb1.out.trans (hb2.mono (Nat.le_trans (by omega) hb1.out.size))); clear hb2)
      | fail)
    go_wp2
    refine bodyPost_end (results_none rfl _ _ _) rfl ⟨rfl, ?_, hb2'.out.setCell (p := ⟨k, 3, none⟩) hB _⟩
    rw [hlf'.out, show nm ++ [58] ++ vl = nm ++ 58 :: vl from by simp]
    exact hk2.out.put 3 (.string ⟨(nm ++ 58 :: vl).toArray⟩)
  · have h3i : ¬ (ki : Int) = 2 := by omega
    by_cases h4 : vl = []
    · subst h4
      obtain rfl : bt = [] := by rw [← hbt'.out]; unfold betw; rw [if_neg h3]; rfl
      have hk1 := Lib.hid (show Has (w.alloc (.cells #[.string ⟨nm.toArray⟩, .string ⟨#[]⟩, .string ⟨#[]⟩] 9)).drew k 81 (undCells (ki, nm, []) l) from Has.alloc (W := w) hk0.out _)
      have hb1 := Lib.hid (show Below B w (w.alloc (.cells #[.string ⟨nm.toArray⟩, .string ⟨#[]⟩, .string ⟨#[]⟩] 9)).drew from ((Below.refl B w).alloc (by omega) _).drew)
      have hjn := Lib.hid (joinS w.heap.size nm ([] : List UInt8) [] (w.alloc (.cells #[.string ⟨nm.toArray⟩, .string ⟨#[]⟩, .string ⟨#[]⟩] 9)).drew (Has.new w _ _) (by simp; omega))
      clear hbt'
      go_enter Tryd.func59, Tryd.ntmps59
      go_wp2
      go_region_held3 (fun W => W.cell? ⟨k, 1, none⟩ = some (.string ⟨nm.toArray⟩) ∧ W.cell? ⟨k, 2, none⟩ = some (.string ⟨#[]⟩))
        (first
        | with_reducible exact hall.out _ _ hk0.out
        | with_reducible exact hall.out _ _ hk1.out
        | with_reducible exact hall.out _ _ hk2.out
        | with_reducible exact hs3.out _
        | fail)
        (first
        | (go_at_call 91; (with_reducible refine Calls.mono hjn.out ?_); rintro e w2 ⟨rfl, hb2⟩; have hk2 := Lib.hid (hk1.out.below hb2 hk1.out.lt); have f3 := hk2.out.free 3; have g3 := hk2.out.cell 3; have hs3 := Lib.hid (fun (v : Value) => show (w2.setCell ⟨k, 3, none⟩ v).cell? ⟨k, 1, none⟩ = some (.string ⟨nm.toArray⟩) ∧ (w2.setCell ⟨k, 3, none⟩ v).cell? ⟨k, 2, none⟩ = some (.string ⟨#[]⟩) from ⟨(hk2.out.put 3 v).cell 1, (hk2.out.put 3 v).cell 2⟩); have hb2' := Lib.hid (hb1.out.trans (hb2.mono (Nat.le_trans (by omega) hb1.out.size))); clear hb2)
        | fail)
      go_wp2
      refine bodyPost_end (results_none rfl _ _ _) rfl ⟨rfl, ?_, hb2'.out.setCell (p := ⟨k, 3, none⟩) hB _⟩
      rw [hlf'.out, show nm ++ ([] : List UInt8) ++ [] = nm from by simp]
      exact hk2.out.put 3 (.string ⟨nm.toArray⟩)
    · have hie : vl.isEmpty = false := by
        cases vl with
        | nil => exact absurd rfl h4
        | cons x r => rfl
      obtain rfl : bt = [58, 32] := by rw [← hbt'.out]; unfold betw; rw [if_neg h3, if_neg h4]
      have hk1 := Lib.hid (show Has (w.alloc (.cells #[.string ⟨nm.toArray⟩, .string ⟨#[58, 32]⟩, .string ⟨vl.toArray⟩] 9)).drew k 81 (undCells (ki, nm, vl) l) from Has.alloc (W := w) hk0.out _)
      have hb1 := Lib.hid (show Below B w (w.alloc (.cells #[.string ⟨nm.toArray⟩, .string ⟨#[58, 32]⟩, .string ⟨vl.toArray⟩] 9)).drew from ((Below.refl B w).alloc (by omega) _).drew)
      have hjn := Lib.hid (joinS w.heap.size nm [58, 32] vl (w.alloc (.cells #[.string ⟨nm.toArray⟩, .string ⟨#[58, 32]⟩, .string ⟨vl.toArray⟩] 9)).drew (Has.new w _ _) (by simp; omega))
      clear hbt'
      go_enter Tryd.func59, Tryd.ntmps59
      go_wp2
      go_region_held3 (fun W => W.cell? ⟨k, 1, none⟩ = some (.string ⟨nm.toArray⟩) ∧ W.cell? ⟨k, 2, none⟩ = some (.string ⟨vl.toArray⟩))
        (first
        | with_reducible exact hall.out _ _ hk0.out
        | with_reducible exact hall.out _ _ hk1.out
        | with_reducible exact hall.out _ _ hk2.out
        | with_reducible exact hs3.out _
        | fail)
        (first
        | (go_at_call 91; (with_reducible refine Calls.mono hjn.out ?_); rintro e w2 ⟨rfl, hb2⟩; have hk2 := Lib.hid (hk1.out.below hb2 hk1.out.lt); have f3 := hk2.out.free 3; have g3 := hk2.out.cell 3; have hs3 := Lib.hid (fun (v : Value) => show (w2.setCell ⟨k, 3, none⟩ v).cell? ⟨k, 1, none⟩ = some (.string ⟨nm.toArray⟩) ∧ (w2.setCell ⟨k, 3, none⟩ v).cell? ⟨k, 2, none⟩ = some (.string ⟨vl.toArray⟩) from ⟨(hk2.out.put 3 v).cell 1, (hk2.out.put 3 v).cell 2⟩); have hb2' := Lib.hid (hb1.out.trans (hb2.mono (Nat.le_trans (by omega) hb1.out.size))); clear hb2)
        | fail)
      go_wp2
      refine bodyPost_end (results_none rfl _ _ _) rfl ⟨rfl, ?_, hb2'.out.setCell (p := ⟨k, 3, none⟩) hB _⟩
      rw [hlf'.out, show nm ++ [58, 32] ++ vl = nm ++ 58 :: 32 :: vl from by simp]
      exact hk2.out.put 3 (.string ⟨(nm ++ 58 :: 32 :: vl).toArray⟩)
end Go.Proofs.YtdkmajmmhngdpaaDoor
