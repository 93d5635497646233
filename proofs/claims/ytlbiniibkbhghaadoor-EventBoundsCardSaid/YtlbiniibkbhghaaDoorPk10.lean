import Derived.Test.YtlbiniibkbhghaaDoorPk3
import Derived.Test.YtlbiniibkbhghaaDoorPk4
import Derived.Test.YtlbiniibkbhghaaDoorPk9
import Derived.LaidMore
import Derived.Lay
import Derived.Stop.Joined
import Derived.Defers
import Derived.Recover
import Derived.Laws.Pointers
import Derived.Test.YtlbiniibkbhghaaDoorPk1
namespace Go.Proofs.YtlbiniibkbhghaaDoor
open Go.ChangeShapes Go.WideShapes Go.ChangeAt Go.RowKit

/-! ## The rows' six tables -/
theorem laid_head1 {P : Program} {n : String} {d : DataW Unit} {rest : List (String × DataW Unit)} {W : World} (h : laidMet P ((n, d) :: rest) W) : laidMet P [(n, d)] W := by
  obtain ⟨ps, ⟨g, t, cs, fuel, p, q, h1, h2, h3, h4, h5, rfl⟩, hn, hc⟩ := h
  exact ⟨_, ⟨g, t, cs, fuel, p, [], h1, h2, h3, h4, rfl, rfl⟩, by simpa using (List.nodup_append.1 hn).1, fun b off hm => hc b off (List.mem_append_left _ (by simpa using hm))⟩
theorem gSigns : Tryd.prog.globalNamed "bellman/event.signs" = some 3 := by kernel_rfl
theorem gSignsType : (Tryd.prog.globals[3]?).map (·.type) = some 142 := by kernel_rfl
theorem cellsSigns : Tryd.prog.cellsOf 142 = 3 := by kernel_rfl
/-- What the rows' list gives. -/
theorem tablesE {W : World} (h : laidMetH Tryd.prog [("unicode/utf8.acceptRanges", Rows.laid_unicode_utf8_acceptRanges), ("bellman/decimal.bases", Rows.laid_bellman_decimal_bases), ("bellman/utf.leads", Rows.laid_bellman_utf_leads), ("bellman/field.names", Rows.laid_bellman_field_names), ("bellman/event.signs", Rows.laid_bellman_event_signs), ("unicode/utf8.first", Rows.laid_unicode_utf8_first)] W) : Tab W ∧ TabU W ∧ NamesT W ∧ SgT W := by
  have h0 : laidMet Tryd.prog [("unicode/utf8.acceptRanges", Rows.laid_unicode_utf8_acceptRanges), ("bellman/decimal.bases", Rows.laid_bellman_decimal_bases), ("bellman/utf.leads", Rows.laid_bellman_utf_leads), ("bellman/field.names", Rows.laid_bellman_field_names), ("bellman/event.signs", Rows.laid_bellman_event_signs), ("unicode/utf8.first", Rows.laid_unicode_utf8_first)] W := h
  have h1 := laid_tail1 h0
  have h2 := laid_tail1 h1
  have h3 := laid_tail1 h2
  have h4 := laid_tail1 h3
  have t : Lib.TabIs Tryd.prog W "bellman/decimal.bases" .u64 [10, 16] :=
    Lib.tabIs_of_head gBases gBasesType Tryd.underlying59 Tryd.underlying22 cellsU64 cellsBases h1
  have s : Lib.TabIs Tryd.prog W "bellman/event.signs" .u8 [13, 10, 0] :=
    Lib.tabIs_of_head gSigns gSignsType Tryd.underlying142 Tryd.underlying5 cells8 cellsSigns h4
  exact ⟨⟨t.cell gBases 0 (by decide), t.cell gBases 1 (by decide)⟩, tableU (laid_head1 h2), names_of h3, ⟨s.cell gSigns 0 (by decide), s.cell gSigns 1 (by decide), s.cell gSigns 2 (by decide)⟩⟩
theorem evT_of {W : World} (h : Tab W ∧ TabU W ∧ NamesT W ∧ SgT W) (hs : W.ShapedOpen Tryd.prog) : EvT W := ⟨h.2.1, h.2.2.2, h.2.2.1, maxT_of hs⟩
/-- A world for the witness. -/
noncomputable def laidWorldE (os : Os) : World := World.laidAll Tryd.prog os Rows.eventBoundsRow.laid
end Go.Proofs.YtlbiniibkbhghaaDoor

namespace Go.Proofs.YtlbiniibkbhghaaDoor
open Go.RowKit Go.Shelf
attribute [local go_sem] Oper.semAt_some

/-! ## What is given up is caught at the face -/
def refuseD (n : Int) : List PanicEntry := [{ v := refuseV n, recovered := false }]
set_option maxRecDepth 100000 in
set_option maxHeartbeats 2000000 in
theorem catch1_idle (p : Addr) (w : World) :
    CallsD Tryd.prog 156 #[.pointer (some p)] .returning w fun e u' w' => e = .returned (.tuple #[]) ∧ u' = .returning ∧ w' = w := by
  refine callsD_of_wpS Tryd.func156 rfl fun c₀ cs hu => ?_
  apply wpS_seq
  apply wpS_region
  simp [wpOpsS, go_sem, recoverD, hu, Tryd.ntmps156, Exit.thenS]
  refine wpS_of_wp ?_
  go_wp2
  cases c₀
  simp_all [bodyPostS, results, Tryd.results156]
set_option maxRecDepth 100000 in
set_option maxHeartbeats 2000000 in
theorem catch1_no (b : Nat) (x n : Int) (w : World) (hh : Has w b 25 #[.int .i64 x]) :
    CallsD Tryd.prog 156 #[.pointer (some ⟨b, 0, none⟩)] (.panicking (refuseD n)) w fun e u' w' =>
      e = .returned (.tuple #[]) ∧ u' = .panicking [{ v := refuseV n, recovered := true }] ∧ w' = (w.setCell ⟨b, 0, none⟩ (.int .i64 n)).alloc (.cells #[.int .i64 n] 170) := by
  refine callsD_of_wpS Tryd.func156 rfl fun c₀ cs hu => ?_
  apply wpS_seq
  apply wpS_region
  simp [wpOpsS, go_sem, recoverD, hu, Tryd.ntmps156, Exit.thenS, refuseD]
  have c1 := (hh.alloc (.cells #[.int .i64 n] 170)).cell 0
  have f1 := (hh.alloc (.cells #[.int .i64 n] 170)).free 0
  have hlt := hh.lt
  clear hh
  have hne : ∀ W : World, (binOp BinOp.eql 20 (refuseV n) .nilIface).run Tryd.prog W = .ok (.bool false) W := fun _ => by kernel_rfl
  have hta : ∀ W : World, (Instr.typeAssert (refuseV n) 20 170 true).run Tryd.prog W = .ok (.tuple #[.agg #[.int .i64 n], .bool true]) W := fun _ => by kernel_rfl
  unfold refuseV at hne hta ⊢
  refine wpS_of_wp ?_
  try simp only [Array.replicate_succ, Array.replicate_zero, List.push_toArray, List.append_toArray, List.nil_append, List.cons_append, List.setIfInBounds_toArray, List.set_cons_succ, List.set_cons_zero]
  go_wp2
  cases c₀
  simp_all [bodyPostS, results, Tryd.results156]
set_option maxRecDepth 100000 in
set_option maxHeartbeats 2000000 in
theorem face1_yes (OF : Nat) (e : Ev) (w : World) (V : Value → World → Prop) (hen : ∀ args W, (callFunc OF args).run Tryd.prog W = .ok (.enter OF args) W) (hset : ∀ v X u, V v X → V v (X.setCell ⟨w.heap.size + 1, 0, none⟩ u))
    (h : Calls Tryd.prog OF #[evV e] ((w.alloc (.cells (evCells e) 53)).alloc (.cells #[.int .i64 0] 25)) fun r w' => ∃ v, r = .returned v ∧ V v w' ∧ Below ((w.alloc (.cells (evCells e) 53)).alloc (.cells #[.int .i64 0] 25)).heap.size ((w.alloc (.cells (evCells e) 53)).alloc (.cells #[.int .i64 0] 25)) w') :
    Calls Tryd.prog 126 #[.func (.func OF) #[] #[], evV e] w fun r w' => ∃ v, r = .returned (.tuple #[v, .int .i64 0]) ∧ V v w' ∧ Below w.heap.size w w' := by
  have hmf : ∀ (fn : Fn) (first cap : Array Value) (w : World), (Instr.makeFunc fn first cap).run Tryd.prog w = .ok (.func fn first cap) w := fun _ _ _ _ => rfl
  have hno := Lib.hid (show Has ((w.alloc (.cells (evCells e) 53)).alloc (.cells #[.int .i64 0] 25)) (w.heap.size + 1) 25 #[.int .i64 0] from (by have := Has.new (w.alloc (.cells (evCells e) 53)) 25 #[.int .i64 0]; rw [World.size_alloc] at this; exact this))
  have hb1 := Lib.hid (show Below w.heap.size w ((w.alloc (.cells (evCells e) 53)).alloc (.cells #[.int .i64 0] 25)) from ((Below.refl _ _).alloc (Nat.le_refl _) _).alloc (by simp) _)
  have h' := Lib.hid h
  have hBle : Hid (w.heap.size ≤ w.heap.size + 1) := Lib.hid (by omega)
  clear h
  unfold evCells at hno hb1 h'
  unfold evV at h' ⊢
  unfold evCells at h' ⊢
  go_enter_defers Tryd.func126, Tryd.ntmps126
  go_wp2_with fail
  with_reducible refine Calls.mono h'.out ?_
  rintro r w2 ⟨v, rfl, hv, hb2⟩
  have hn2 := Lib.hid (hno.out.below hb2 hno.out.lt)
  have c0 := hn2.out.cell 0
  have f0 := hn2.out.free 0
  have hv' := Lib.hid hv
  have hb2' := Lib.hid hb2
  clear hv hb2
  go_wp2
  refine leaves_cons (f := 156) (args := #[.pointer (some ⟨w.heap.size + 1, 0, none⟩)]) (by simp) (by simp [go_sem]) ?_
  refine (catch1_idle ⟨w.heap.size + 1, 0, none⟩ _).mono ?_
  rintro e u' w'' ⟨rfl, rfl, rfl⟩
  have c1 := (hn2.out.put 0 (.int .i64 0)).cell 0
  simp [Leaves, settle, results, Tryd.results126, go_sem, c1]
  exact ⟨hset _ _ _ hv'.out, (hb1.out.trans (hb2'.out.mono hb1.out.size)).setCell (p := ⟨w.heap.size + 1, 0, none⟩) hBle.out _⟩
set_option maxRecDepth 100000 in
set_option maxHeartbeats 2000000 in
theorem face1_no (OF : Nat) (n : Int) (e : Ev) (w : World) (hen : ∀ args W, (callFunc OF args).run Tryd.prog W = .ok (.enter OF args) W)
    (h : Calls Tryd.prog OF #[evV e] ((w.alloc (.cells (evCells e) 53)).alloc (.cells #[.int .i64 0] 25)) fun r w' => r = .panicked (refuseD n) ∧ Below ((w.alloc (.cells (evCells e) 53)).alloc (.cells #[.int .i64 0] 25)).heap.size ((w.alloc (.cells (evCells e) 53)).alloc (.cells #[.int .i64 0] 25)) w') :
    Calls Tryd.prog 126 #[.func (.func OF) #[] #[], evV e] w fun r w' => r = .returned (.tuple #[.slice none 0 0, .int .i64 n]) ∧ Below w.heap.size w w' := by
  have hmf : ∀ (fn : Fn) (first cap : Array Value) (w : World), (Instr.makeFunc fn first cap).run Tryd.prog w = .ok (.func fn first cap) w := fun _ _ _ _ => rfl
  have hno := Lib.hid (show Has ((w.alloc (.cells (evCells e) 53)).alloc (.cells #[.int .i64 0] 25)) (w.heap.size + 1) 25 #[.int .i64 0] from (by have := Has.new (w.alloc (.cells (evCells e) 53)) 25 #[.int .i64 0]; rw [World.size_alloc] at this; exact this))
  have hb1 := Lib.hid (show Below w.heap.size w ((w.alloc (.cells (evCells e) 53)).alloc (.cells #[.int .i64 0] 25)) from ((Below.refl _ _).alloc (Nat.le_refl _) _).alloc (by simp) _)
  have h' := Lib.hid h
  have hBle : Hid (w.heap.size ≤ w.heap.size + 1) := Lib.hid (by omega)
  clear h
  unfold evCells at hno hb1 h'
  unfold evV at h' ⊢
  unfold evCells at h' ⊢
  go_enter_defers Tryd.func126, Tryd.ntmps126
  go_wp2_with fail
  with_reducible refine Calls.mono h'.out ?_
  rintro r w2 ⟨rfl, hb2⟩
  have hn2 := Lib.hid (hno.out.below hb2 hno.out.lt)
  have hb2' := Lib.hid hb2
  clear hb2
  refine leaves_cons (f := 156) (args := #[.pointer (some ⟨w.heap.size + 1, 0, none⟩)]) (by simp) (by simp [go_sem]) ?_
  refine (catch1_no (w.heap.size + 1) 0 n _ hn2.out).mono ?_
  rintro e u' w'' ⟨rfl, rfl, rfl⟩
  have c1 := ((hn2.out.put 0 (.int .i64 n)).alloc (.cells #[.int .i64 n] 170)).cell 0
  simp [Leaves, settle, results, Tryd.results126, go_sem, c1]
  exact ((hb1.out.trans (hb2'.out.mono hb1.out.size)).setCell (p := ⟨w.heap.size + 1, 0, none⟩) hBle.out _).alloc (by have := hb1.out.size; have := hb2'.out.size; simp; omega) _
set_option maxRecDepth 100000 in
set_option maxHeartbeats 2000000 in
theorem catch2_idle (p : Addr) (w : World) :
    CallsD Tryd.prog 134 #[.pointer (some p)] .returning w fun e u' w' => e = .returned (.tuple #[]) ∧ u' = .returning ∧ w' = w := by
  refine callsD_of_wpS Tryd.func134 rfl fun c₀ cs hu => ?_
  apply wpS_seq
  apply wpS_region
  simp [wpOpsS, go_sem, recoverD, hu, Tryd.ntmps134, Exit.thenS]
  refine wpS_of_wp ?_
  go_wp2
  cases c₀
  simp_all [bodyPostS, results, Tryd.results134]
set_option maxRecDepth 100000 in
set_option maxHeartbeats 2000000 in
theorem catch2_no (b : Nat) (x n : Int) (w : World) (hh : Has w b 25 #[.int .i64 x]) :
    CallsD Tryd.prog 134 #[.pointer (some ⟨b, 0, none⟩)] (.panicking (refuseD n)) w fun e u' w' =>
      e = .returned (.tuple #[]) ∧ u' = .panicking [{ v := refuseV n, recovered := true }] ∧ w' = (w.setCell ⟨b, 0, none⟩ (.int .i64 n)).alloc (.cells #[.int .i64 n] 170) := by
  refine callsD_of_wpS Tryd.func134 rfl fun c₀ cs hu => ?_
  apply wpS_seq
  apply wpS_region
  simp [wpOpsS, go_sem, recoverD, hu, Tryd.ntmps134, Exit.thenS, refuseD]
  have c1 := (hh.alloc (.cells #[.int .i64 n] 170)).cell 0
  have f1 := (hh.alloc (.cells #[.int .i64 n] 170)).free 0
  have hlt := hh.lt
  clear hh
  have hne : ∀ W : World, (binOp BinOp.eql 20 (refuseV n) .nilIface).run Tryd.prog W = .ok (.bool false) W := fun _ => by kernel_rfl
  have hta : ∀ W : World, (Instr.typeAssert (refuseV n) 20 170 true).run Tryd.prog W = .ok (.tuple #[.agg #[.int .i64 n], .bool true]) W := fun _ => by kernel_rfl
  unfold refuseV at hne hta ⊢
  refine wpS_of_wp ?_
  try simp only [Array.replicate_succ, Array.replicate_zero, List.push_toArray, List.append_toArray, List.nil_append, List.cons_append, List.setIfInBounds_toArray, List.set_cons_succ, List.set_cons_zero]
  go_wp2
  cases c₀
  simp_all [bodyPostS, results, Tryd.results134]
set_option maxRecDepth 100000 in
set_option maxHeartbeats 2000000 in
theorem face2_yes (OF : Nat) (e : Ev) (w : World) (V : Value → World → Prop) (hen : ∀ args W, (callFunc OF args).run Tryd.prog W = .ok (.enter OF args) W) (hset : ∀ v X u, V v X → V v (X.setCell ⟨w.heap.size + 1, 0, none⟩ u))
    (h : Calls Tryd.prog OF #[evV e] ((w.alloc (.cells (evCells e) 53)).alloc (.cells #[.int .i64 0] 25)) fun r w' => ∃ v, r = .returned v ∧ V v w' ∧ Below ((w.alloc (.cells (evCells e) 53)).alloc (.cells #[.int .i64 0] 25)).heap.size ((w.alloc (.cells (evCells e) 53)).alloc (.cells #[.int .i64 0] 25)) w') :
    Calls Tryd.prog 86 #[.func (.func OF) #[] #[], evV e] w fun r w' => ∃ v, r = .returned (.tuple #[v, .int .i64 0]) ∧ V v w' ∧ Below w.heap.size w w' := by
  have hmf : ∀ (fn : Fn) (first cap : Array Value) (w : World), (Instr.makeFunc fn first cap).run Tryd.prog w = .ok (.func fn first cap) w := fun _ _ _ _ => rfl
  have hno := Lib.hid (show Has ((w.alloc (.cells (evCells e) 53)).alloc (.cells #[.int .i64 0] 25)) (w.heap.size + 1) 25 #[.int .i64 0] from (by have := Has.new (w.alloc (.cells (evCells e) 53)) 25 #[.int .i64 0]; rw [World.size_alloc] at this; exact this))
  have hb1 := Lib.hid (show Below w.heap.size w ((w.alloc (.cells (evCells e) 53)).alloc (.cells #[.int .i64 0] 25)) from ((Below.refl _ _).alloc (Nat.le_refl _) _).alloc (by simp) _)
  have h' := Lib.hid h
  have hBle : Hid (w.heap.size ≤ w.heap.size + 1) := Lib.hid (by omega)
  clear h
  unfold evCells at hno hb1 h'
  unfold evV at h' ⊢
  unfold evCells at h' ⊢
  go_enter_defers Tryd.func86, Tryd.ntmps86
  go_wp2_with fail
  with_reducible refine Calls.mono h'.out ?_
  rintro r w2 ⟨v, rfl, hv, hb2⟩
  have hn2 := Lib.hid (hno.out.below hb2 hno.out.lt)
  have c0 := hn2.out.cell 0
  have f0 := hn2.out.free 0
  have hv' := Lib.hid hv
  have hb2' := Lib.hid hb2
  clear hv hb2
  go_wp2
  refine leaves_cons (f := 134) (args := #[.pointer (some ⟨w.heap.size + 1, 0, none⟩)]) (by simp) (by simp [go_sem]) ?_
  refine (catch2_idle ⟨w.heap.size + 1, 0, none⟩ _).mono ?_
  rintro e u' w'' ⟨rfl, rfl, rfl⟩
  have c1 := (hn2.out.put 0 (.int .i64 0)).cell 0
  simp [Leaves, settle, results, Tryd.results86, go_sem, c1]
  exact ⟨hset _ _ _ hv'.out, (hb1.out.trans (hb2'.out.mono hb1.out.size)).setCell (p := ⟨w.heap.size + 1, 0, none⟩) hBle.out _⟩
set_option maxRecDepth 100000 in
set_option maxHeartbeats 2000000 in
theorem face2_no (OF : Nat) (n : Int) (e : Ev) (w : World) (hen : ∀ args W, (callFunc OF args).run Tryd.prog W = .ok (.enter OF args) W)
    (h : Calls Tryd.prog OF #[evV e] ((w.alloc (.cells (evCells e) 53)).alloc (.cells #[.int .i64 0] 25)) fun r w' => r = .panicked (refuseD n) ∧ Below ((w.alloc (.cells (evCells e) 53)).alloc (.cells #[.int .i64 0] 25)).heap.size ((w.alloc (.cells (evCells e) 53)).alloc (.cells #[.int .i64 0] 25)) w') :
    Calls Tryd.prog 86 #[.func (.func OF) #[] #[], evV e] w fun r w' => r = .returned (.tuple #[.pointer none, .int .i64 n]) ∧ Below w.heap.size w w' := by
  have hmf : ∀ (fn : Fn) (first cap : Array Value) (w : World), (Instr.makeFunc fn first cap).run Tryd.prog w = .ok (.func fn first cap) w := fun _ _ _ _ => rfl
  have hno := Lib.hid (show Has ((w.alloc (.cells (evCells e) 53)).alloc (.cells #[.int .i64 0] 25)) (w.heap.size + 1) 25 #[.int .i64 0] from (by have := Has.new (w.alloc (.cells (evCells e) 53)) 25 #[.int .i64 0]; rw [World.size_alloc] at this; exact this))
  have hb1 := Lib.hid (show Below w.heap.size w ((w.alloc (.cells (evCells e) 53)).alloc (.cells #[.int .i64 0] 25)) from ((Below.refl _ _).alloc (Nat.le_refl _) _).alloc (by simp) _)
  have h' := Lib.hid h
  have hBle : Hid (w.heap.size ≤ w.heap.size + 1) := Lib.hid (by omega)
  clear h
  unfold evCells at hno hb1 h'
  unfold evV at h' ⊢
  unfold evCells at h' ⊢
  go_enter_defers Tryd.func86, Tryd.ntmps86
  go_wp2_with fail
  with_reducible refine Calls.mono h'.out ?_
  rintro r w2 ⟨rfl, hb2⟩
  have hn2 := Lib.hid (hno.out.below hb2 hno.out.lt)
  have hb2' := Lib.hid hb2
  clear hb2
  refine leaves_cons (f := 134) (args := #[.pointer (some ⟨w.heap.size + 1, 0, none⟩)]) (by simp) (by simp [go_sem]) ?_
  refine (catch2_no (w.heap.size + 1) 0 n _ hn2.out).mono ?_
  rintro e u' w'' ⟨rfl, rfl, rfl⟩
  have c1 := ((hn2.out.put 0 (.int .i64 n)).alloc (.cells #[.int .i64 n] 170)).cell 0
  simp [Leaves, settle, results, Tryd.results86, go_sem, c1]
  exact ((hb1.out.trans (hb2'.out.mono hb1.out.size)).setCell (p := ⟨w.heap.size + 1, 0, none⟩) hBle.out _).alloc (by have := hb1.out.size; have := hb2'.out.size; simp; omega) _
set_option maxRecDepth 100000 in
set_option maxHeartbeats 2000000 in
theorem catch3_idle (p : Addr) (w : World) :
    CallsD Tryd.prog 130 #[.pointer (some p)] .returning w fun e u' w' => e = .returned (.tuple #[]) ∧ u' = .returning ∧ w' = w := by
  refine callsD_of_wpS Tryd.func130 rfl fun c₀ cs hu => ?_
  apply wpS_seq
  apply wpS_region
  simp [wpOpsS, go_sem, recoverD, hu, Tryd.ntmps130, Exit.thenS]
  refine wpS_of_wp ?_
  go_wp2
  cases c₀
  simp_all [bodyPostS, results, Tryd.results130]
set_option maxRecDepth 100000 in
set_option maxHeartbeats 2000000 in
theorem catch3_no (b : Nat) (x n : Int) (w : World) (hh : Has w b 25 #[.int .i64 x]) :
    CallsD Tryd.prog 130 #[.pointer (some ⟨b, 0, none⟩)] (.panicking (refuseD n)) w fun e u' w' =>
      e = .returned (.tuple #[]) ∧ u' = .panicking [{ v := refuseV n, recovered := true }] ∧ w' = (w.setCell ⟨b, 0, none⟩ (.int .i64 n)).alloc (.cells #[.int .i64 n] 170) := by
  refine callsD_of_wpS Tryd.func130 rfl fun c₀ cs hu => ?_
  apply wpS_seq
  apply wpS_region
  simp [wpOpsS, go_sem, recoverD, hu, Tryd.ntmps130, Exit.thenS, refuseD]
  have c1 := (hh.alloc (.cells #[.int .i64 n] 170)).cell 0
  have f1 := (hh.alloc (.cells #[.int .i64 n] 170)).free 0
  have hlt := hh.lt
  clear hh
  have hne : ∀ W : World, (binOp BinOp.eql 20 (refuseV n) .nilIface).run Tryd.prog W = .ok (.bool false) W := fun _ => by kernel_rfl
  have hta : ∀ W : World, (Instr.typeAssert (refuseV n) 20 170 true).run Tryd.prog W = .ok (.tuple #[.agg #[.int .i64 n], .bool true]) W := fun _ => by kernel_rfl
  unfold refuseV at hne hta ⊢
  refine wpS_of_wp ?_
  try simp only [Array.replicate_succ, Array.replicate_zero, List.push_toArray, List.append_toArray, List.nil_append, List.cons_append, List.setIfInBounds_toArray, List.set_cons_succ, List.set_cons_zero]
  go_wp2
  cases c₀
  simp_all [bodyPostS, results, Tryd.results130]
set_option maxRecDepth 100000 in
set_option maxHeartbeats 2000000 in
theorem face3_yes (OF : Nat) (t : List UInt8) (w : World) (V : Value → World → Prop) (hen : ∀ args W, (callFunc OF args).run Tryd.prog W = .ok (.enter OF args) W) (hset : ∀ v X u, V v X → V v (X.setCell ⟨w.heap.size, 0, none⟩ u))
    (h : Calls Tryd.prog OF #[.string ⟨t.toArray⟩] (w.alloc (.cells #[.int .i64 0] 25)) fun r w' => ∃ v, r = .returned v ∧ V v w' ∧ Below (w.alloc (.cells #[.int .i64 0] 25)).heap.size (w.alloc (.cells #[.int .i64 0] 25)) w') :
    Calls Tryd.prog 84 #[.func (.func OF) #[] #[], .string ⟨t.toArray⟩] w fun r w' => ∃ v, r = .returned (.tuple #[v, .int .i64 0]) ∧ V v w' ∧ Below w.heap.size w w' := by
  have hmf : ∀ (fn : Fn) (first cap : Array Value) (w : World), (Instr.makeFunc fn first cap).run Tryd.prog w = .ok (.func fn first cap) w := fun _ _ _ _ => rfl
  have hno := Lib.hid (show Has (w.alloc (.cells #[.int .i64 0] 25)) (w.heap.size) 25 #[.int .i64 0] from Has.new _ _ _)
  have hb1 := Lib.hid (show Below w.heap.size w (w.alloc (.cells #[.int .i64 0] 25)) from (Below.refl _ _).alloc (Nat.le_refl _) _)
  have h' := Lib.hid h
  have hBle : Hid (w.heap.size ≤ w.heap.size) := Lib.hid (by omega)
  clear h
  skip
  go_enter_defers Tryd.func84, Tryd.ntmps84
  go_wp2_with fail
  with_reducible refine Calls.mono h'.out ?_
  rintro r w2 ⟨v, rfl, hv, hb2⟩
  have hn2 := Lib.hid (hno.out.below hb2 hno.out.lt)
  have c0 := hn2.out.cell 0
  have f0 := hn2.out.free 0
  have hv' := Lib.hid hv
  have hb2' := Lib.hid hb2
  clear hv hb2
  go_wp2
  refine leaves_cons (f := 130) (args := #[.pointer (some ⟨w.heap.size, 0, none⟩)]) (by simp) (by simp [go_sem]) ?_
  refine (catch3_idle ⟨w.heap.size, 0, none⟩ _).mono ?_
  rintro e u' w'' ⟨rfl, rfl, rfl⟩
  have c1 := (hn2.out.put 0 (.int .i64 0)).cell 0
  simp [Leaves, settle, results, Tryd.results84, go_sem, c1]
  exact ⟨hset _ _ _ hv'.out, (hb1.out.trans (hb2'.out.mono hb1.out.size)).setCell (p := ⟨w.heap.size, 0, none⟩) hBle.out _⟩
set_option maxRecDepth 100000 in
set_option maxHeartbeats 2000000 in
theorem face3_no (OF : Nat) (n : Int) (t : List UInt8) (w : World) (hen : ∀ args W, (callFunc OF args).run Tryd.prog W = .ok (.enter OF args) W)
    (h : Calls Tryd.prog OF #[.string ⟨t.toArray⟩] (w.alloc (.cells #[.int .i64 0] 25)) fun r w' => r = .panicked (refuseD n) ∧ Below (w.alloc (.cells #[.int .i64 0] 25)).heap.size (w.alloc (.cells #[.int .i64 0] 25)) w') :
    Calls Tryd.prog 84 #[.func (.func OF) #[] #[], .string ⟨t.toArray⟩] w fun r w' => r = .returned (.tuple #[.slice none 0 0, .int .i64 n]) ∧ Below w.heap.size w w' := by
  have hmf : ∀ (fn : Fn) (first cap : Array Value) (w : World), (Instr.makeFunc fn first cap).run Tryd.prog w = .ok (.func fn first cap) w := fun _ _ _ _ => rfl
  have hno := Lib.hid (show Has (w.alloc (.cells #[.int .i64 0] 25)) (w.heap.size) 25 #[.int .i64 0] from Has.new _ _ _)
  have hb1 := Lib.hid (show Below w.heap.size w (w.alloc (.cells #[.int .i64 0] 25)) from (Below.refl _ _).alloc (Nat.le_refl _) _)
  have h' := Lib.hid h
  have hBle : Hid (w.heap.size ≤ w.heap.size) := Lib.hid (by omega)
  clear h
  skip
  go_enter_defers Tryd.func84, Tryd.ntmps84
  go_wp2_with fail
  with_reducible refine Calls.mono h'.out ?_
  rintro r w2 ⟨rfl, hb2⟩
  have hn2 := Lib.hid (hno.out.below hb2 hno.out.lt)
  have hb2' := Lib.hid hb2
  clear hb2
  refine leaves_cons (f := 130) (args := #[.pointer (some ⟨w.heap.size, 0, none⟩)]) (by simp) (by simp [go_sem]) ?_
  refine (catch3_no (w.heap.size) 0 n _ hn2.out).mono ?_
  rintro e u' w'' ⟨rfl, rfl, rfl⟩
  have c1 := ((hn2.out.put 0 (.int .i64 n)).alloc (.cells #[.int .i64 n] 170)).cell 0
  simp [Leaves, settle, results, Tryd.results84, go_sem, c1]
  exact ((hb1.out.trans (hb2'.out.mono hb1.out.size)).setCell (p := ⟨w.heap.size, 0, none⟩) hBle.out _).alloc (by have := hb1.out.size; have := hb2'.out.size; simp; omega) _
end Go.Proofs.YtlbiniibkbhghaaDoor

namespace Go.Proofs.YtlbiniibkbhghaaDoor
open Go.RowKit Go.Shelf
attribute [local go_sem] Oper.semAt_some

/-! ## The face of numbers -/
set_option maxRecDepth 100000 in
set_option maxHeartbeats 2000000 in
theorem catch4_idle (p : Addr) (w : World) :
    CallsD Tryd.prog 158 #[.pointer (some p)] .returning w fun e u' w' => e = .returned (.tuple #[]) ∧ u' = .returning ∧ w' = w := by
  refine callsD_of_wpS Tryd.func158 rfl fun c₀ cs hu => ?_
  apply wpS_seq
  apply wpS_region
  simp [wpOpsS, go_sem, recoverD, hu, Tryd.ntmps158, Exit.thenS]
  refine wpS_of_wp ?_
  go_wp2
  cases c₀
  simp_all [bodyPostS, results, Tryd.results158]
set_option maxRecDepth 100000 in
set_option maxHeartbeats 2000000 in
theorem catch4_no (b : Nat) (x n : Int) (w : World) (hh : Has w b 25 #[.int .i64 x]) :
    CallsD Tryd.prog 158 #[.pointer (some ⟨b, 0, none⟩)] (.panicking (refuseD n)) w fun e u' w' =>
      e = .returned (.tuple #[]) ∧ u' = .panicking [{ v := refuseV n, recovered := true }] ∧ w' = (w.setCell ⟨b, 0, none⟩ (.int .i64 n)).alloc (.cells #[.int .i64 n] 170) := by
  refine callsD_of_wpS Tryd.func158 rfl fun c₀ cs hu => ?_
  apply wpS_seq
  apply wpS_region
  simp [wpOpsS, go_sem, recoverD, hu, Tryd.ntmps158, Exit.thenS, refuseD]
  have c1 := (hh.alloc (.cells #[.int .i64 n] 170)).cell 0
  have f1 := (hh.alloc (.cells #[.int .i64 n] 170)).free 0
  have hlt := hh.lt
  clear hh
  have hne : ∀ W : World, (binOp BinOp.eql 20 (refuseV n) .nilIface).run Tryd.prog W = .ok (.bool false) W := fun _ => by kernel_rfl
  have hta : ∀ W : World, (Instr.typeAssert (refuseV n) 20 170 true).run Tryd.prog W = .ok (.tuple #[.agg #[.int .i64 n], .bool true]) W := fun _ => by kernel_rfl
  unfold refuseV at hne hta ⊢
  refine wpS_of_wp ?_
  try simp only [Array.replicate_succ, Array.replicate_zero, List.push_toArray, List.append_toArray, List.nil_append, List.cons_append, List.setIfInBounds_toArray, List.set_cons_succ, List.set_cons_zero]
  go_wp2
  cases c₀
  simp_all [bodyPostS, results, Tryd.results158]
set_option maxRecDepth 100000 in
set_option maxHeartbeats 2000000 in
theorem face4_yes (OF : Nat) (e : Ev) (w : World) (a b : Int) (hen : ∀ args W, (callFunc OF args).run Tryd.prog W = .ok (.enter OF args) W)
    (h : Calls Tryd.prog OF #[evV e] (((w.alloc (.cells (evCells e) 53)).alloc (.cells #[.int .u64 0, .int .u64 0] 165)).alloc (.cells #[.int .i64 0] 25)) fun r w' => r = .returned (.agg #[.int .u64 a, .int .u64 b]) ∧ Below (((w.alloc (.cells (evCells e) 53)).alloc (.cells #[.int .u64 0, .int .u64 0] 165)).alloc (.cells #[.int .i64 0] 25)).heap.size (((w.alloc (.cells (evCells e) 53)).alloc (.cells #[.int .u64 0, .int .u64 0] 165)).alloc (.cells #[.int .i64 0] 25)) w') :
    Calls Tryd.prog 128 #[.func (.func OF) #[] #[], evV e] w fun r w' => r = .returned (.tuple #[.agg #[.int .u64 a, .int .u64 b], .int .i64 0]) ∧ Below w.heap.size w w' := by
  have hmf : ∀ (fn : Fn) (first cap : Array Value) (w : World), (Instr.makeFunc fn first cap).run Tryd.prog w = .ok (.func fn first cap) w := fun _ _ _ _ => rfl
  have hno := Lib.hid (show Has (((w.alloc (.cells (evCells e) 53)).alloc (.cells #[.int .u64 0, .int .u64 0] 165)).alloc (.cells #[.int .i64 0] 25)) (w.heap.size + 1 + 1) 25 #[.int .i64 0] from (by have := Has.new ((w.alloc (.cells (evCells e) 53)).alloc (.cells #[.int .u64 0, .int .u64 0] 165)) 25 #[.int .i64 0]; simpa using this))
  have hmd := Lib.hid (show Has (((w.alloc (.cells (evCells e) 53)).alloc (.cells #[.int .u64 0, .int .u64 0] 165)).alloc (.cells #[.int .i64 0] 25)) (w.heap.size + 1) 165 #[.int .u64 0, .int .u64 0] from (by have := Has.new (w.alloc (.cells (evCells e) 53)) 165 #[.int .u64 0, .int .u64 0]; rw [World.size_alloc] at this; exact this.alloc _))
  have hb1 := Lib.hid (show Below w.heap.size w (((w.alloc (.cells (evCells e) 53)).alloc (.cells #[.int .u64 0, .int .u64 0] 165)).alloc (.cells #[.int .i64 0] 25)) from (((Below.refl _ _).alloc (Nat.le_refl _) _).alloc (by simp) _).alloc (by simp; omega) _)
  have h' := Lib.hid h
  have hBle : Hid (w.heap.size ≤ w.heap.size + 1 + 1) := Lib.hid (by omega)
  clear h
  unfold evCells at hno hb1 hmd h'
  unfold evV at h' ⊢
  unfold evCells at h' ⊢
  go_enter_defers Tryd.func128, Tryd.ntmps128
  go_wp2_with fail
  with_reducible refine Calls.mono h'.out ?_
  rintro r w2 ⟨rfl, hb2⟩
  have hn2 := Lib.hid (hno.out.below hb2 hno.out.lt)
  have c0 := hn2.out.cell 0
  have f0 := hn2.out.free 0
  have hm2 := Lib.hid (hmd.out.below hb2 hmd.out.lt)
  have m0 := hm2.out.cell 0
  have m1 := hm2.out.cell 1
  have g0 := hm2.out.free 0
  have g1 := hm2.out.free 1
  have hb2' := Lib.hid hb2
  clear hb2
  go_wp2
  refine leaves_cons (f := 158) (args := #[.pointer (some ⟨w.heap.size + 1 + 1, 0, none⟩)]) (by simp) (by simp [go_sem]) ?_
  refine (catch4_idle ⟨w.heap.size + 1 + 1, 0, none⟩ _).mono ?_
  rintro e u' w'' ⟨rfl, rfl, rfl⟩
  have hmf2 := Lib.hid (((hm2.out.put 0 (.int .u64 a)).put 1 (.int .u64 b)).other (j := w.heap.size + 1 + 1) (i := 0) (by omega) (.int .i64 0))
  have hnf2 := Lib.hid (((hn2.out.other (j := w.heap.size + 1) (i := 0) (by omega) (.int .u64 a)).other (j := w.heap.size + 1) (i := 1) (by omega) (.int .u64 b)).put 0 (.int .i64 0))
  have c1 := hnf2.out.cell 0
  have c2 := hmf2.out.cell 0
  have c3 := hmf2.out.cell 1
  simp [Leaves, settle, results, Tryd.results128, go_sem, c1, c2, c3]
  exact (((hb1.out.trans (hb2'.out.mono hb1.out.size)).setCell (p := ⟨w.heap.size + 1, 0, none⟩) (by simp) _).setCell (p := ⟨w.heap.size + 1, 1, none⟩) (by simp) _).setCell (p := ⟨w.heap.size + 1 + 1, 0, none⟩) hBle.out _
set_option maxRecDepth 100000 in
set_option maxHeartbeats 2000000 in
theorem face4_no (OF : Nat) (n : Int) (e : Ev) (w : World) (hen : ∀ args W, (callFunc OF args).run Tryd.prog W = .ok (.enter OF args) W)
    (h : Calls Tryd.prog OF #[evV e] (((w.alloc (.cells (evCells e) 53)).alloc (.cells #[.int .u64 0, .int .u64 0] 165)).alloc (.cells #[.int .i64 0] 25)) fun r w' => r = .panicked (refuseD n) ∧ Below (((w.alloc (.cells (evCells e) 53)).alloc (.cells #[.int .u64 0, .int .u64 0] 165)).alloc (.cells #[.int .i64 0] 25)).heap.size (((w.alloc (.cells (evCells e) 53)).alloc (.cells #[.int .u64 0, .int .u64 0] 165)).alloc (.cells #[.int .i64 0] 25)) w') :
    Calls Tryd.prog 128 #[.func (.func OF) #[] #[], evV e] w fun r w' => r = .returned (.tuple #[.agg #[.int .u64 0, .int .u64 0], .int .i64 n]) ∧ Below w.heap.size w w' := by
  have hmf : ∀ (fn : Fn) (first cap : Array Value) (w : World), (Instr.makeFunc fn first cap).run Tryd.prog w = .ok (.func fn first cap) w := fun _ _ _ _ => rfl
  have hno := Lib.hid (show Has (((w.alloc (.cells (evCells e) 53)).alloc (.cells #[.int .u64 0, .int .u64 0] 165)).alloc (.cells #[.int .i64 0] 25)) (w.heap.size + 1 + 1) 25 #[.int .i64 0] from (by have := Has.new ((w.alloc (.cells (evCells e) 53)).alloc (.cells #[.int .u64 0, .int .u64 0] 165)) 25 #[.int .i64 0]; simpa using this))
  have hmd := Lib.hid (show Has (((w.alloc (.cells (evCells e) 53)).alloc (.cells #[.int .u64 0, .int .u64 0] 165)).alloc (.cells #[.int .i64 0] 25)) (w.heap.size + 1) 165 #[.int .u64 0, .int .u64 0] from (by have := Has.new (w.alloc (.cells (evCells e) 53)) 165 #[.int .u64 0, .int .u64 0]; rw [World.size_alloc] at this; exact this.alloc _))
  have hb1 := Lib.hid (show Below w.heap.size w (((w.alloc (.cells (evCells e) 53)).alloc (.cells #[.int .u64 0, .int .u64 0] 165)).alloc (.cells #[.int .i64 0] 25)) from (((Below.refl _ _).alloc (Nat.le_refl _) _).alloc (by simp) _).alloc (by simp; omega) _)
  have h' := Lib.hid h
  have hBle : Hid (w.heap.size ≤ w.heap.size + 1 + 1) := Lib.hid (by omega)
  clear h
  unfold evCells at hno hb1 hmd h'
  unfold evV at h' ⊢
  unfold evCells at h' ⊢
  go_enter_defers Tryd.func128, Tryd.ntmps128
  go_wp2_with fail
  with_reducible refine Calls.mono h'.out ?_
  rintro r w2 ⟨rfl, hb2⟩
  have hn2 := Lib.hid (hno.out.below hb2 hno.out.lt)
  have hm2 := Lib.hid (hmd.out.below hb2 hmd.out.lt)
  have hb2' := Lib.hid hb2
  clear hb2
  refine leaves_cons (f := 158) (args := #[.pointer (some ⟨w.heap.size + 1 + 1, 0, none⟩)]) (by simp) (by simp [go_sem]) ?_
  refine (catch4_no (w.heap.size + 1 + 1) 0 n _ hn2.out).mono ?_
  rintro e u' w'' ⟨rfl, rfl, rfl⟩
  have c1 := ((hn2.out.put 0 (.int .i64 n)).alloc (.cells #[.int .i64 n] 170)).cell 0
  have hmf2 := Lib.hid ((hm2.out.other (j := w.heap.size + 1 + 1) (i := 0) (by omega) (.int .i64 n)).alloc (.cells #[.int .i64 n] 170))
  have c2 := hmf2.out.cell 0
  have c3 := hmf2.out.cell 1
  simp [Leaves, settle, results, Tryd.results128, go_sem, c1, c2, c3]
  exact ((hb1.out.trans (hb2'.out.mono hb1.out.size)).setCell (p := ⟨w.heap.size + 1 + 1, 0, none⟩) hBle.out _).alloc (by have := hb1.out.size; have := hb2'.out.size; simp; omega) _
end Go.Proofs.YtlbiniibkbhghaaDoor

namespace Go.Proofs.YtlbiniibkbhghaaDoor
open Go.RowKit Go.Shelf
attribute [local go_sem] Oper.semAt_some

/-! ## Encode, Check, Size, Comment, Heartbeat -/
theorem bs_set {X : World} {n0 b : Nat} {v : Value} {l : List UInt8} (h : Bs X n0 v l) (hb : b < n0) (u : Value) : Bs (X.setCell ⟨b, 0, none⟩ u) n0 v l :=
  h.kept (fun g hg => Below.heap_setCell _ _ _ g (fun e => by have := (h.own g hg).1; have e : g = b := e; omega))
def EncodeR (e : Ev) (w : World) (r : Ending) (w' : World) : Prop :=
  ((rightE e = true ∧ ∃ v, r = .returned (.tuple #[v, .int .i64 0]) ∧ Bs w' w.heap.size v (bytesE e)) ∨ (rightE e = false ∧ r = .returned (.tuple #[.slice none 0 0, .int .i64 2]))) ∧ Below w.heap.size w w'
def FaceFrR (e : Ev) (w : World) (r : Ending) (w' : World) : Prop :=
  ((rightE e = true ∧ ∃ k, r = .returned (.tuple #[.pointer (some ⟨k, 0, none⟩), .int .i64 0]) ∧ Has w' k 175 (frCells e (.slice none 0 0)) ∧ w.heap.size ≤ k) ∨ (rightE e = false ∧ r = .returned (.tuple #[.pointer none, .int .i64 2]))) ∧ Below w.heap.size w w'
def CommentR (t : List UInt8) (w : World) (r : Ending) (w' : World) : Prop :=
  ((okC t = true ∧ ∃ v, r = .returned (.tuple #[v, .int .i64 0]) ∧ Bs w' w.heap.size v (comL t)) ∨ (okC t = false ∧ r = .returned (.tuple #[.slice none 0 0, .int .i64 2]))) ∧ Below w.heap.size w w'
def errE (e : Ev) : Int := if rightE e = true then 0 else 2
def ShortE (e : Ev) : Prop := e.1.length ≤ 1099511627776 ∧ e.2.1.length ≤ 1099511627776 ∧ e.2.2.length ≤ 1099511627776
theorem faceEnc_any (e : Ev) (w : World) (hl : ShortE e) (hT : EvT w) : Calls Tryd.prog 126 #[.func (.func 127) #[] #[], evV e] w (EncodeR e w) := by
  have hb : Below w.heap.size w ((w.alloc (.cells (evCells e) 53)).alloc (.cells #[.int .i64 0] 25)) := ((Below.refl _ _).alloc (Nat.le_refl _) _).alloc (by simp) _
  have h := encoded_any e _ hl (hT.below hb)
  have hen := enters_of Tryd.func127 (by kernel_rfl) rfl
  have hz : w.heap.size + 1 < ((w.alloc (.cells (evCells e) 53)).alloc (.cells #[.int .i64 0] 25)).heap.size := by simp
  cases hr : rightE e with
  | true =>
    refine (face1_yes _ e w (fun v X => Bs X ((w.alloc (.cells (evCells e) 53)).alloc (.cells #[.int .i64 0] 25)).heap.size v (bytesE e)) hen (fun v X u hv => bs_set hv hz u) (h.mono (fun r w' h => ?_))).mono (fun r w' h => ?_)
    · rcases h.1 with ⟨_, v, h1, h2⟩ | h1
      · exact ⟨v, h1, h2, h.2⟩
      · rw [hr] at h1; cases h1.1
    · obtain ⟨v, h1, h2, h3⟩ := h
      exact ⟨.inl ⟨hr, v, h1, h2.mono (by omega)⟩, h3⟩
  | false =>
    refine (face1_no _ 2 e w hen (h.mono (fun r w' h => ?_))).mono (fun r w' h => ⟨.inr ⟨hr, h.1⟩, h.2⟩)
    rcases h.1 with ⟨h1, _⟩ | h1
    · rw [hr] at h1; cases h1
    · exact ⟨h1.2, h.2⟩
theorem faceFr_any (e : Ev) (w : World) (hl : ShortE e) (hT : EvT w) : Calls Tryd.prog 86 #[.func (.func 87) #[] #[], evV e] w (FaceFrR e w) := by
  have hb : Below w.heap.size w ((w.alloc (.cells (evCells e) 53)).alloc (.cells #[.int .i64 0] 25)) := ((Below.refl _ _).alloc (Nat.le_refl _) _).alloc (by simp) _
  have h := framed_any e _ hl (hT.below hb).tab (hT.below hb).sg
  have hen := enters_of Tryd.func87 (by kernel_rfl) rfl
  have hz : ((w.alloc (.cells (evCells e) 53)).alloc (.cells #[.int .i64 0] 25)).heap.size = w.heap.size + 2 := by simp
  cases hr : rightE e with
  | true =>
    refine (face2_yes _ e w (fun v X => v = .pointer (some ⟨w.heap.size + 3, 0, none⟩) ∧ Has X (w.heap.size + 3) 175 (frCells e (.slice none 0 0))) hen (fun v X u hv => ⟨hv.1, hv.2.other (by omega) u⟩) (h.mono (fun r w' h => ?_))).mono (fun r w' h => ?_)
    · rcases h.1 with ⟨_, h1, h2⟩ | h1
      · rw [hz] at h1 h2
        exact ⟨_, h1, ⟨rfl, h2⟩, h.2⟩
      · rw [hr] at h1; cases h1.1
    · obtain ⟨v, h1, ⟨rfl, h2⟩, h3⟩ := h
      exact ⟨.inl ⟨hr, _, h1, h2, by omega⟩, h3⟩
  | false =>
    refine (face2_no _ 2 e w hen (h.mono (fun r w' h => ?_))).mono (fun r w' h => ⟨.inr ⟨hr, h.1⟩, h.2⟩)
    rcases h.1 with ⟨h1, _⟩ | h1
    · rw [hr] at h1; cases h1
    · exact ⟨h1.2, h.2⟩
theorem faceCm_any (t : List UInt8) (w : World) (hl : t.length ≤ 1099511627776) (hT : EvT w) : Calls Tryd.prog 84 #[.func (.func 85) #[] #[], .string ⟨t.toArray⟩] w (CommentR t w) := by
  have hb : Below w.heap.size w (w.alloc (.cells #[.int .i64 0] 25)) := (Below.refl _ _).alloc (Nat.le_refl _) _
  have h := commented_any t _ hl (hT.below hb)
  have hen := enters_of Tryd.func85 (by kernel_rfl) rfl
  have hz : w.heap.size < (w.alloc (.cells #[.int .i64 0] 25)).heap.size := by simp
  cases hr : okC t with
  | true =>
    refine (face3_yes _ t w (fun v X => Bs X (w.alloc (.cells #[.int .i64 0] 25)).heap.size v (comL t)) hen (fun v X u hv => bs_set hv hz u) (h.mono (fun r w' h => ?_))).mono (fun r w' h => ?_)
    · rcases h.1 with ⟨_, v, h1, h2⟩ | h1
      · exact ⟨v, h1, h2, h.2⟩
      · rw [hr] at h1; cases h1.1
    · obtain ⟨v, h1, h2, h3⟩ := h
      exact ⟨.inl ⟨hr, v, h1, h2.mono (by omega)⟩, h3⟩
  | false =>
    refine (face3_no _ 2 t w hen (h.mono (fun r w' h => ?_))).mono (fun r w' h => ⟨.inr ⟨hr, h.1⟩, h.2⟩)
    rcases h.1 with ⟨h1, _⟩ | h1
    · rw [hr] at h1; cases h1
    · exact ⟨h1.2, h.2⟩
set_option maxRecDepth 100000 in
set_option maxHeartbeats 2000000 in
theorem encode_any (e : Ev) (w : World) (hl : ShortE e) (hT : EvT w) : Calls Tryd.prog 80 #[evV e] w (EncodeR e w) := by
  have hb : Below w.heap.size w (w.alloc (.cells (evCells e) 53)) := (Below.refl _ _).alloc (Nat.le_refl _) _
  have h := Lib.hid (faceEnc_any e _ hl (hT.below hb))
  have hb' := Lib.hid hb
  have hz := Nat.le_of_lt (Nat.lt_succ_self w.heap.size)
  clear hT hb
  unfold evV evCells at *
  go_enter Tryd.func80, Tryd.ntmps80
  go_wp2_with fail
  with_reducible refine Calls.mono h.out ?_
  rintro r w2 ⟨⟨hr, v, rfl, hv⟩ | ⟨hr, rfl⟩, hb2⟩
  · have hv' := Lib.hid hv
    have hb2' := Lib.hid hb2
    clear hv hb2
    go_wp2
    go_ret2
    exact ⟨.inl ⟨hr, v, rfl, hv'.out.mono (by simp)⟩, hb'.out.trans (hb2'.out.mono (by simp))⟩
  · have hb2' := Lib.hid hb2
    clear hb2
    go_wp2
    go_ret2
    exact ⟨.inr ⟨hr, rfl⟩, hb'.out.trans (hb2'.out.mono (by simp))⟩
set_option maxRecDepth 100000 in
set_option maxHeartbeats 2000000 in
theorem check_any (e : Ev) (w : World) (hl : ShortE e) (hT : EvT w) : Calls Tryd.prog 44 #[evV e] w fun r w' => r = .returned (.int .i64 (errE e)) ∧ Below w.heap.size w w' := by
  have hb : Below w.heap.size w (w.alloc (.cells (evCells e) 53)) := (Below.refl _ _).alloc (Nat.le_refl _) _
  have h := Lib.hid (faceFr_any e _ hl (hT.below hb))
  have hb' := Lib.hid hb
  clear hT hb
  unfold evV evCells at *
  go_enter Tryd.func44, Tryd.ntmps44
  go_wp2_with fail
  with_reducible refine Calls.mono h.out ?_
  rintro r w2 ⟨⟨hr, k, rfl, _, _⟩ | ⟨hr, rfl⟩, hb2⟩
  · have hb2' := Lib.hid hb2
    clear hb2
    go_wp2
    go_ret
    exact ⟨by unfold errE; rw [hr]; rfl, hb'.out.trans (hb2'.out.mono (by simp))⟩
  · have hb2' := Lib.hid hb2
    clear hb2
    go_wp2
    go_ret
    exact ⟨by unfold errE; rw [hr]; rfl, hb'.out.trans (hb2'.out.mono (by simp))⟩
set_option maxRecDepth 100000 in
set_option maxHeartbeats 2000000 in
theorem comment_any (t : List UInt8) (w : World) (hl : t.length ≤ 1099511627776) (hT : EvT w) : Calls Tryd.prog 42 #[.string ⟨t.toArray⟩] w (CommentR t w) := by
  have h := Lib.hid (faceCm_any t w hl hT)
  clear hT
  go_enter Tryd.func42, Tryd.ntmps42
  go_wp2_with fail
  with_reducible refine Calls.mono h.out ?_
  rintro r w2 ⟨⟨hr, v, rfl, hv⟩ | ⟨hr, rfl⟩, hb2⟩
  · have hv' := Lib.hid hv
    have hb2' := Lib.hid hb2
    clear hv hb2
    go_wp2
    go_ret2
    exact ⟨.inl ⟨hr, v, rfl, hv'.out⟩, hb2'.out⟩
  · have hb2' := Lib.hid hb2
    clear hb2
    go_wp2
    go_ret2
    exact ⟨.inr ⟨hr, rfl⟩, hb2'.out⟩
theorem hb_ok : okC [104, 98] = true := by
  unfold okC cleanB soundB
  decide +kernel
set_option maxRecDepth 100000 in
set_option maxHeartbeats 2000000 in
theorem heartbeat_any (w : World) (hT : EvT w) : Calls Tryd.prog 83 #[] w fun r w' => ∃ v, r = .returned v ∧ Bs w' w.heap.size v (comL [104, 98]) ∧ Below w.heap.size w w' := by
  have h := Lib.hid (comment_any [104, 98] w (by simp) hT)
  clear hT
  go_enter Tryd.func83, Tryd.ntmps83
  go_wp2_with fail
  with_reducible refine Calls.mono h.out ?_
  rintro r w2 ⟨⟨hr, v, rfl, hv⟩ | ⟨hr, rfl⟩, hb2⟩
  · have hv' := Lib.hid hv
    have hb2' := Lib.hid hb2
    clear hv hb2
    go_wp2
    go_ret
    exact ⟨_, rfl, hv'.out, hb2'.out⟩
  · rw [hb_ok] at hr
    cases hr
end Go.Proofs.YtlbiniibkbhghaaDoor

namespace Go.Proofs.YtlbiniibkbhghaaDoor
open Go.RowKit Go.Shelf
attribute [local go_sem] Oper.semAt_some

/-! ## Resets -/
def resetT : List UInt8 := [115, 116, 114, 101, 97, 109, 45, 114, 101, 115, 101, 116]
set_option maxRecDepth 100000 in
set_option maxHeartbeats 2000000 in
theorem numberE_any (l : List UInt8) (w : World) (hl : l.length ≤ 1099511627776) (hD : Tab w) : Calls Tryd.prog 160 #[.string ⟨l.toArray⟩] w fun r w' => (((parseR l).2 = 0 ∧ r = .returned (.int .u64 (parseR l).1)) ∨ ((parseR l).2 ≠ 0 ∧ r = refuseE 170)) ∧ Below w.heap.size w w' := by
  have h := parseCall_any ⟨l.toArray⟩ (by show l.toArray.size ≤ _; simp; omega) w hD
  rw [show (⟨l.toArray⟩ : ByteArray).data.toList = l from rfl] at h
  generalize parseR l = p at h ⊢
  obtain ⟨a, b⟩ := p
  unfold Two at h
  simp only at h ⊢
  have h' := Lib.hid h
  clear h hD
  by_cases hb : b = 0
  · subst hb
    go_enter Tryd.func160, Tryd.ntmps160
    go_wp2_with (go_at_call 12; (with_reducible refine Calls.mono h'.out ?_); rintro r w2 ⟨rfl, hb2⟩; have hb2' := Lib.hid hb2; clear hb2)
    go_ret
    exact ⟨.inl ⟨trivial, rfl⟩, hb2'.out⟩
  · have hbn : (b != 0) = true := by rw [bne_iff_ne]; exact hb
    have hb' := Lib.hid hb
    clear hb
    go_enter Tryd.func160, Tryd.ntmps160
    go_wp2_with (go_at_call 12; (with_reducible refine Calls.mono h'.out ?_); rintro r w2 ⟨rfl, hb2⟩; have hb2' := Lib.hid hb2; clear hb2)
    exact ⟨rfl, .inr ⟨hb'.out, rfl⟩, hb2'.out⟩
set_option maxRecDepth 100000 in
set_option maxHeartbeats 2000000 in
theorem reserved_any (e : Ev) (w : World) : Calls Tryd.prog 159 #[evV e] w fun r w' => r = .returned (.bool (e.2.1 == resetT)) ∧ Below w.heap.size w w' := by
  have hb : Below w.heap.size w (w.alloc (.cells (evCells e) 53)) := (Below.refl _ _).alloc (Nat.le_refl _) _
  have hb' := Lib.hid hb
  clear hb
  unfold evV evCells at *
  unfold resetT at *
  go_enter Tryd.func159, Tryd.ntmps159
  go_wp2
  go_ret
  exact ⟨rfl, hb'.out⟩
def resE (e : Ev) : Option (Int × Int) :=
  if e.1 = [] ∧ e.2.1 = resetT then (if (parseR (Lib.cut e.2.2 [32]).1).2 = 0 ∧ (parseR (Lib.cut e.2.2 [32]).2.1).2 = 0 then some ((parseR (Lib.cut e.2.2 [32]).1).1, (parseR (Lib.cut e.2.2 [32]).2.1).1) else none) else none
def NumR (e : Ev) (w : World) (r : Ending) (w' : World) : Prop :=
  ((∃ a b, resE e = some (a, b) ∧ r = .returned (.agg #[.int .u64 a, .int .u64 b])) ∨ (resE e = none ∧ r = refuseE 170)) ∧ Below w.heap.size w w'
theorem cut_len (s : List UInt8) : (Lib.cut s [32]).1.length ≤ s.length ∧ (Lib.cut s [32]).2.1.length ≤ s.length := by
  unfold Lib.cut
  split <;> simp
  omega
set_option maxRecDepth 100000 in
set_option maxHeartbeats 4000000 in
theorem numbers_any (e : Ev) (w : World) (hl : e.2.2.length ≤ 4294967000) (hD : Tab w) (hM : MaxT w) : Calls Tryd.prog 129 #[evV e] w (NumR e w) := by
  have hb2 : Below w.heap.size w ((w.alloc (.cells (evCells e) 53)).alloc (.cells #[.int .u64 0, .int .u64 0] 165)) := ((Below.refl _ _).alloc (Nat.le_refl _) _).alloc (by simp) _
  obtain ⟨m, hm⟩ := hM.below hb2
  have hc := Tryd.strings_Cut ⟨e.2.2.toArray⟩ ⟨#[32]⟩ m _ (by show e.2.2.toArray.size < _; simp; omega) (hm.cell 0)
  rw [show (⟨e.2.2.toArray⟩ : ByteArray).data.toList = e.2.2 from rfl, show (⟨#[32]⟩ : ByteArray).data.toList = [32] from rfl] at hc
  obtain ⟨l1, l2⟩ := cut_len e.2.2
  have hre := Lib.hid (show resE e = resE e from rfl)
  have hE0 : resE e = (if e.1 = [] ∧ e.2.1 = resetT then (if (parseR (Lib.cut e.2.2 [32]).1).2 = 0 ∧ (parseR (Lib.cut e.2.2 [32]).2.1).2 = 0 then some ((parseR (Lib.cut e.2.2 [32]).1).1, (parseR (Lib.cut e.2.2 [32]).2.1).1) else none) else none) := rfl
  unfold NumR
  generalize resE e = R at hE0 ⊢
  generalize (Lib.cut e.2.2 [32]).2.2 = c3 at hc
  generalize (Lib.cut e.2.2 [32]).2.1 = c2 at hc l2 hE0
  generalize (Lib.cut e.2.2 [32]).1 = c1 at hc l1 hE0
  have hrs := fun W => reserved_any e W
  have hc' := Lib.hid hc
  have hb2' := Lib.hid hb2
  have hE0' := Lib.hid hE0
  have hrs' := Lib.hid hrs
  have hD2 := Lib.hid (hD.below hb2)
  have hk := Lib.hid (show Has ((w.alloc (.cells (evCells e) 53)).alloc (.cells #[.int .u64 0, .int .u64 0] 165)) w.heap.size 53 (evCells e) from (Has.new _ _ _).alloc _)
  clear hc hb2 hE0 hrs hM hm
  obtain ⟨ei, et, ed⟩ := e
  simp only at l1 l2 hl hE0' hc' hrs'
  have hW9 := fun n => Lib.hid (show Below w.heap.size w (((w.alloc (.cells (evCells (ei, et, ed)) 53)).alloc (.cells #[.int .u64 0, .int .u64 0] 165)).drewN n) from below_draws hb2'.out n)
  have hk9 := fun n => Lib.hid (show Has (((w.alloc (.cells (evCells (ei, et, ed)) 53)).alloc (.cells #[.int .u64 0, .int .u64 0] 165)).drewN n) (w.heap.size + 1) 165 #[.int .u64 0, .int .u64 0] from by
    have := Has.new (w.alloc (.cells (evCells (ei, et, ed)) 53)) 165 #[.int .u64 0, .int .u64 0]
    rw [World.size_alloc] at this
    exact this)
  by_cases hi : ei = []
  · subst hi
    cases ht : (et == resetT) with
    | false =>
      have hno := Lib.hid (show R = none from by rw [hE0'.out, if_neg]; rintro ⟨_, h⟩; rw [h] at ht; simp at ht)
      rw [ht] at hrs'
      clear ht
      unfold evV evCells at *
      go_enter Tryd.func129, Tryd.ntmps129
      go_wp2_with (first
        | (go_at_call 118; (with_reducible refine Calls.mono hc'.out ?_); rintro r w3 ⟨rfl, n, rfl⟩)
        | (go_at_call 159; (with_reducible refine Calls.mono (hrs'.out _) ?_); rintro r w4 ⟨rfl, hb4⟩; have hb4' := Lib.hid hb4; clear hb4))
      exact ⟨rfl, .inr ⟨hno.out, rfl⟩, (hW9 n).out.trans (hb4'.out.mono (hW9 n).out.size)⟩
    | true =>
      have hte : et = resetT := by simpa using ht
      have hE1 := Lib.hid (show R = (if (parseR c1).2 = 0 ∧ (parseR c2).2 = 0 then some ((parseR c1).1, (parseR c2).1) else none) from by rw [hE0'.out, if_pos ⟨rfl, hte⟩])
      rw [ht] at hrs'
      clear ht hte
      have hn1 := fun W (hb : Below w.heap.size w W) => numberE_any c1 W (by omega) (hD.below hb)
      have hn2 := fun W (hb : Below w.heap.size w W) => numberE_any c2 W (by omega) (hD.below hb)
      generalize parseR c1 = p1 at hn1 hE1
      generalize parseR c2 = p2 at hn2 hE1
      obtain ⟨a1, b1⟩ := p1
      obtain ⟨a2, b2⟩ := p2
      simp only at hn1 hn2 hE1
      by_cases hz1 : b1 = 0
      · by_cases hz2 : b2 = 0
        · have hn1' := Lib.hid (fun W hb => (hn1 W hb).mono (R' := fun r w' => r = .returned (.int .u64 a1) ∧ Below W.heap.size W w') (fun r w' h => ⟨by rcases h.1 with h | h; exact h.2; exact absurd hz1 h.1, h.2⟩))
          have hn2' := Lib.hid (fun W hb => (hn2 W hb).mono (R' := fun r w' => r = .returned (.int .u64 a2) ∧ Below W.heap.size W w') (fun r w' h => ⟨by rcases h.1 with h | h; exact h.2; exact absurd hz2 h.1, h.2⟩))
          have hyes := Lib.hid (show R = some (a1, a2) from by rw [hE1.out, if_pos ⟨hz1, hz2⟩])
          clear hn1 hn2 hz1 hz2 hE1
          unfold evV evCells at *
          go_enter Tryd.func129, Tryd.ntmps129
          go_wp2_with (first
            | (go_at_call 118; (with_reducible refine Calls.mono hc'.out ?_); rintro r w3 ⟨rfl, n, rfl⟩)
            | (go_at_call 159; (with_reducible refine Calls.mono (hrs'.out _) ?_); rintro r w4 ⟨rfl, hb4⟩; have hb4' := Lib.hid ((hW9 n).out.trans (hb4.mono (hW9 n).out.size)); have hk4 := Lib.hid ((hk9 n).out.below hb4 (hk9 n).out.lt); clear hb4)
            | (go_at_call 160; (with_reducible refine Calls.mono (hn2'.out _ hb5'.out) ?_); rintro r w6 ⟨rfl, hb6⟩; have hb6' := Lib.hid (hb5'.out.trans (hb6.mono hb5'.out.size)); have hk6 := Lib.hid (hk5.out.below hb6 hk5.out.lt); have m0 := hk6.out.cell 0; have m1 := hk6.out.cell 1; have g0 := hk6.out.free 0; have g1 := hk6.out.free 1; clear hb6)
            | (go_at_call 160; (with_reducible refine Calls.mono (hn1'.out _ hb4'.out) ?_); rintro r w5 ⟨rfl, hb5⟩; have hb5' := Lib.hid (hb4'.out.trans (hb5.mono hb4'.out.size)); have hk5 := Lib.hid (hk4.out.below hb5 hk4.out.lt); clear hb5))
          have hf6 := ((hk6.out.put 0 (.int .u64 a1)).put 1 (.int .u64 a2))
          have z0 := hf6.cell 0
          have z1 := hf6.cell 1
          refine ⟨rfl, .agg #[.int .u64 a1, .int .u64 a2], ?_, .inl ⟨a1, a2, hyes.out, rfl⟩, (hb6'.out.setCell (p := ⟨w.heap.size + 1, 0, none⟩) (by simp) _).setCell (p := ⟨w.heap.size + 1, 1, none⟩) (by simp) _⟩
          simp [results, Tryd.results129, go_sem, z0, z1]
        · have hn1' := Lib.hid (fun W hb => (hn1 W hb).mono (R' := fun r w' => r = .returned (.int .u64 a1) ∧ Below W.heap.size W w') (fun r w' h => ⟨by rcases h.1 with h | h; exact h.2; exact absurd hz1 h.1, h.2⟩))
          have hn2' := Lib.hid (fun W hb => (hn2 W hb).mono (R' := fun r w' => r = .panicked [{ v := refuseV 170, recovered := false }] ∧ Below W.heap.size W w') (fun r w' h => ⟨by rcases h.1 with h | h; exact absurd h.1 hz2; exact h.2, h.2⟩))
          have hno := Lib.hid (show R = none from by rw [hE1.out, if_neg]; exact fun h => hz2 h.2)
          clear hn1 hn2 hz1 hz2 hE1
          unfold evV evCells at *
          go_enter Tryd.func129, Tryd.ntmps129
          go_wp2_with (first
            | (go_at_call 118; (with_reducible refine Calls.mono hc'.out ?_); rintro r w3 ⟨rfl, n, rfl⟩)
            | (go_at_call 159; (with_reducible refine Calls.mono (hrs'.out _) ?_); rintro r w4 ⟨rfl, hb4⟩; have hb4' := Lib.hid ((hW9 n).out.trans (hb4.mono (hW9 n).out.size)); clear hb4)
            | (go_at_call 160; (with_reducible refine Calls.mono (hn2'.out _ hb5'.out) ?_); rintro r w6 ⟨rfl, hb6⟩; have hb6' := Lib.hid (hb5'.out.trans (hb6.mono hb5'.out.size)); clear hb6)
            | (go_at_call 160; (with_reducible refine Calls.mono (hn1'.out _ hb4'.out) ?_); rintro r w5 ⟨rfl, hb5⟩; have hb5' := Lib.hid (hb4'.out.trans (hb5.mono hb4'.out.size)); clear hb5))
          exact ⟨rfl, .inr ⟨hno.out, rfl⟩, hb6'.out⟩
      · have hn1' := Lib.hid (fun W hb => (hn1 W hb).mono (R' := fun r w' => r = .panicked [{ v := refuseV 170, recovered := false }] ∧ Below W.heap.size W w') (fun r w' h => ⟨by rcases h.1 with h | h; exact absurd h.1 hz1; exact h.2, h.2⟩))
        have hno := Lib.hid (show R = none from by rw [hE1.out, if_neg]; exact fun h => hz1 h.1)
        clear hn1 hn2 hz1 hE1
        unfold evV evCells at *
        go_enter Tryd.func129, Tryd.ntmps129
        go_wp2_with (first
            | (go_at_call 118; (with_reducible refine Calls.mono hc'.out ?_); rintro r w3 ⟨rfl, n, rfl⟩)
            | (go_at_call 159; (with_reducible refine Calls.mono (hrs'.out _) ?_); rintro r w4 ⟨rfl, hb4⟩; have hb4' := Lib.hid ((hW9 n).out.trans (hb4.mono (hW9 n).out.size)); clear hb4)
            | (go_at_call 160; (with_reducible refine Calls.mono (hn1'.out _ hb4'.out) ?_); rintro r w5 ⟨rfl, hb5⟩; have hb5' := Lib.hid (hb4'.out.trans (hb5.mono hb4'.out.size)); clear hb5))
        exact ⟨rfl, .inr ⟨hno.out, rfl⟩, hb5'.out⟩
  · have hno := Lib.hid (show R = none from by rw [hE0'.out, if_neg]; exact fun h => hi h.1)
    have hie : ei.isEmpty = false := by cases ei with
      | nil => exact absurd rfl hi
      | cons b r => rfl
    clear hi
    unfold evV evCells at *
    go_enter Tryd.func129, Tryd.ntmps129
    go_wp2_with (go_at_call 118; (with_reducible refine Calls.mono hc'.out ?_); rintro r w3 ⟨rfl, n, rfl⟩)
    exact ⟨rfl, .inr ⟨hno.out, rfl⟩, (hW9 n).out⟩
end Go.Proofs.YtlbiniibkbhghaaDoor
