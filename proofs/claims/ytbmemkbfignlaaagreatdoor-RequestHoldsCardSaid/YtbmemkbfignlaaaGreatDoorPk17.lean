import Derived.Test.YtbmemkbfignlaaaGreatDoorPk16
namespace Go.Proofs.YtbmemkbfignlaaaGreatDoor
open Go.RowKit Go.Shelf
attribute [local go_sem] Oper.semAt_some

/-! ## What is given up is caught -/
set_option maxRecDepth 100000 in
set_option maxHeartbeats 2000000 in
theorem catchT_idle (p : Addr) (w : World) :
    CallsD Tryz.prog 93 #[.pointer (some p)] .returning w fun e u' w' => e = .returned (.tuple #[]) ∧ u' = .returning ∧ w' = w := by
  refine callsD_of_wpS Tryz.func93 rfl fun c₀ cs hu => ?_
  apply wpS_seq
  apply wpS_region
  simp [wpOpsS, go_sem, recoverD, hu, Tryz.ntmps93, Exit.thenS]
  refine wpS_of_wp ?_
  go_wp2
  cases c₀
  simp_all [bodyPostS, results, Tryz.results93]
set_option maxRecDepth 100000 in
set_option maxHeartbeats 2000000 in
theorem catchT_no (b : Nat) (x n : Int) (w : World) (hh : Has w b 42 #[.int .i64 x]) :
    CallsD Tryz.prog 93 #[.pointer (some ⟨b, 0, none⟩)] (.panicking (gaveD n)) w fun e u' w' =>
      e = .returned (.tuple #[]) ∧ u' = .panicking [{ v := gaveV n, recovered := true }] ∧ w' = (w.setCell ⟨b, 0, none⟩ (.int .i64 n)).alloc (.cells #[.int .i64 n] 136) := by
  refine callsD_of_wpS Tryz.func93 rfl fun c₀ cs hu => ?_
  apply wpS_seq
  apply wpS_region
  simp [wpOpsS, go_sem, recoverD, hu, Tryz.ntmps93, Exit.thenS, gaveD]
  have c1 := (hh.alloc (.cells #[.int .i64 n] 136)).cell 0
  have f1 := (hh.alloc (.cells #[.int .i64 n] 136)).free 0
  have hlt := hh.lt
  clear hh
  have hne : ∀ W : World, (binOp BinOp.eql 20 (gaveV n) .nilIface).run Tryz.prog W = .ok (.bool false) W := fun _ => by kernel_rfl
  have hta : ∀ W : World, (Instr.typeAssert (gaveV n) 20 136 true).run Tryz.prog W = .ok (.tuple #[.agg #[.int .i64 n], .bool true]) W := fun _ => by kernel_rfl
  unfold gaveV at hne hta ⊢
  refine wpS_of_wp ?_
  try simp only [Array.replicate_succ, Array.replicate_zero, List.push_toArray, List.append_toArray, List.nil_append, List.cons_append, List.setIfInBounds_toArray, List.set_cons_succ, List.set_cons_zero]
  go_wp2
  cases c₀
  simp_all [bodyPostS, results, Tryz.results93]
set_option maxRecDepth 100000 in
set_option maxHeartbeats 2000000 in
theorem tried_yes (fn : FuncId) (cap : Array Value) (w : World) (V : World → Prop) (hen : ∀ args W, (callFunc fn args).run Tryz.prog W = .ok (.enter fn args) W) (hset : ∀ X u, V X → V (X.setCell ⟨w.heap.size, 0, none⟩ u))
    (h : Calls Tryz.prog fn cap (w.alloc (.cells #[.int .i64 0] 42)) fun r w' => r = .returned (.tuple #[]) ∧ V w' ∧ Has w' w.heap.size 42 #[.int .i64 0]) :
    Calls Tryz.prog 73 #[.func (.func fn) #[] cap] w fun r w' => r = .returned (.int .i64 0) ∧ V w' := by
  have hmf : ∀ (fn : Fn) (first cap : Array Value) (w : World), (Instr.makeFunc fn first cap).run Tryz.prog w = .ok (.func fn first cap) w := fun _ _ _ _ => rfl
  have h' := Lib.hid h
  have hset' := Lib.hid hset
  clear h hset
  go_enter_defers Tryz.func73, Tryz.ntmps73
  go_wp2_with fail
  try simp only [Array.empty_append, Array.append_empty]
  with_reducible refine Calls.mono h'.out ?_
  rintro r w2 ⟨rfl, hv, hn2⟩
  have c0 := hn2.cell 0
  have f0 := hn2.free 0
  have hv' := Lib.hid hv
  have hn2' := Lib.hid hn2
  clear hv hn2
  go_wp2
  refine leaves_cons (f := 93) (args := #[.pointer (some ⟨w.heap.size, 0, none⟩)]) (by simp) (by simp [go_sem]) ?_
  refine (catchT_idle ⟨w.heap.size, 0, none⟩ _).mono ?_
  rintro e u' w'' ⟨rfl, rfl, rfl⟩
  have c1 := (hn2'.out.put 0 (.int .i64 0)).cell 0
  simp [Leaves, settle, results, Tryz.results73, go_sem, c1]
  exact hset'.out _ _ hv'.out
set_option maxRecDepth 100000 in
set_option maxHeartbeats 2000000 in
theorem tried_no (fn : FuncId) (cap : Array Value) (n : Int) (w : World) (V : World → Prop) (hen : ∀ args W, (callFunc fn args).run Tryz.prog W = .ok (.enter fn args) W) (hset : ∀ X u, V X → V ((X.setCell ⟨w.heap.size, 0, none⟩ u).alloc (.cells #[.int .i64 n] 136)))
    (h : Calls Tryz.prog fn cap (w.alloc (.cells #[.int .i64 0] 42)) fun r w' => r = gaveE n ∧ V w' ∧ Has w' w.heap.size 42 #[.int .i64 0]) :
    Calls Tryz.prog 73 #[.func (.func fn) #[] cap] w fun r w' => r = .returned (.int .i64 n) ∧ V w' := by
  have hmf : ∀ (fn : Fn) (first cap : Array Value) (w : World), (Instr.makeFunc fn first cap).run Tryz.prog w = .ok (.func fn first cap) w := fun _ _ _ _ => rfl
  have h' := Lib.hid h
  have hset' := Lib.hid hset
  clear h hset
  go_enter_defers Tryz.func73, Tryz.ntmps73
  go_wp2_with fail
  try simp only [Array.empty_append, Array.append_empty]
  with_reducible refine Calls.mono h'.out ?_
  rintro r w2 ⟨rfl, hv, hn2⟩
  have hv' := Lib.hid hv
  have hn2' := Lib.hid hn2
  clear hv hn2
  refine leaves_cons (f := 93) (args := #[.pointer (some ⟨w.heap.size, 0, none⟩)]) (by simp) (by simp [go_sem]) ?_
  refine (catchT_no w.heap.size 0 n _ hn2'.out).mono ?_
  rintro e u' w'' ⟨rfl, rfl, rfl⟩
  have c1 := ((hn2'.out.put 0 (.int .i64 n)).alloc (.cells #[.int .i64 n] 136)).cell 0
  simp [Leaves, settle, results, Tryz.results73, go_sem, c1]
  exact hset'.out _ _ hv'.out
end Go.Proofs.YtbmemkbfignlaaaGreatDoor
