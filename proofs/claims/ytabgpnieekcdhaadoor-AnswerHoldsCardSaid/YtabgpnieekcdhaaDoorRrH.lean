import Derived.Test.YtabgpnieekcdhaaDoorHdM
import Derived.WalkKit
import Derived.WalkSpells
import Derived.WalkLawsBesides
import Derived.Defers
import Derived.Recover
import Derived.Laws.Pointers
namespace Go.Proofs.YtabgpnieekcdhaaDoor
open Go.RowKit Go.Shelf
attribute [local go_sem] Oper.semAt_some

/-! ## What is wrong is given up by -/
def gaveVH (n : Int) : Value := .iface 112 (.agg #[.int .i64 n])
def gaveDH (n : Int) : List PanicEntry := [{ v := gaveVH n, recovered := false }]
abbrev gaveEH (n : Int) : Ending := .panicked (gaveDH n)
theorem mustH_yes (n : Int) (w : World) : Calls Tryd.prog 63 #[.bool true, .int .i64 n] w fun e w' => e = .returned (.tuple #[]) ∧ w' = w := by
  go_enter Tryd.func63, Tryd.ntmps63
  go_wp2
  go_end0
  exact ⟨rfl, rfl⟩
theorem mustH_no (n : Int) (w : World) : Calls Tryd.prog 63 #[.bool false, .int .i64 n] w fun e w' => e = gaveEH n ∧ w' = w := by
  go_enter Tryd.func63, Tryd.ntmps63
  go_wp2
  exact ⟨rfl, rfl, rfl⟩
/-! ## What is given up is caught -/
set_option maxRecDepth 100000 in
set_option maxHeartbeats 2000000 in
theorem catchH_idle (p : Addr) (w : World) :
    CallsD Tryd.prog 62 #[.pointer (some p)] .returning w fun e u' w' => e = .returned (.tuple #[]) ∧ u' = .returning ∧ w' = w := by
  refine callsD_of_wpS Tryd.func62 rfl fun c₀ cs hu => ?_
  apply wpS_seq
  apply wpS_region
  simp [wpOpsS, go_sem, recoverD, hu, Tryd.ntmps62, Exit.thenS]
  refine wpS_of_wp ?_
  go_wp2
  cases c₀
  simp_all [bodyPostS, results, Tryd.results62]
set_option maxRecDepth 100000 in
set_option maxHeartbeats 2000000 in
theorem catchH_no (b : Nat) (x n : Int) (w : World) (hh : Has w b 23 #[.int .i64 x]) :
    CallsD Tryd.prog 62 #[.pointer (some ⟨b, 0, none⟩)] (.panicking (gaveDH n)) w fun e u' w' =>
      e = .returned (.tuple #[]) ∧ u' = .panicking [{ v := gaveVH n, recovered := true }] ∧ w' = (w.setCell ⟨b, 0, none⟩ (.int .i64 n)).alloc (.cells #[.int .i64 n] 112) := by
  refine callsD_of_wpS Tryd.func62 rfl fun c₀ cs hu => ?_
  apply wpS_seq
  apply wpS_region
  simp [wpOpsS, go_sem, recoverD, hu, Tryd.ntmps62, Exit.thenS, gaveDH]
  have c1 := (hh.alloc (.cells #[.int .i64 n] 112)).cell 0
  have f1 := (hh.alloc (.cells #[.int .i64 n] 112)).free 0
  have hlt := hh.lt
  clear hh
  have hne : ∀ W : World, (binOp BinOp.eql 20 (gaveVH n) .nilIface).run Tryd.prog W = .ok (.bool false) W := fun _ => by kernel_rfl
  have hta : ∀ W : World, (Instr.typeAssert (gaveVH n) 20 112 true).run Tryd.prog W = .ok (.tuple #[.agg #[.int .i64 n], .bool true]) W := fun _ => by kernel_rfl
  unfold gaveVH at hne hta ⊢
  refine wpS_of_wp ?_
  try simp only [Array.replicate_succ, Array.replicate_zero, List.push_toArray, List.append_toArray, List.nil_append, List.cons_append, List.setIfInBounds_toArray, List.set_cons_succ, List.set_cons_zero]
  go_wp2
  cases c₀
  simp_all [bodyPostS, results, Tryd.results62]
set_option maxRecDepth 100000 in
set_option maxHeartbeats 2000000 in
theorem triedH_yes (fn : FuncId) (cap : Array Value) (w : World) (V : World → Prop) (hen : ∀ args W, (callFunc fn args).run Tryd.prog W = .ok (.enter fn args) W) (hset : ∀ X u, V X → V (X.setCell ⟨w.heap.size, 0, none⟩ u))
    (h : Calls Tryd.prog fn cap (w.alloc (.cells #[.int .i64 0] 23)) fun r w' => r = .returned (.tuple #[]) ∧ V w' ∧ Has w' w.heap.size 23 #[.int .i64 0]) :
    Calls Tryd.prog 54 #[.func (.func fn) #[] cap] w fun r w' => r = .returned (.int .i64 0) ∧ V w' := by
  have hmf : ∀ (fn : Fn) (first cap : Array Value) (w : World), (Instr.makeFunc fn first cap).run Tryd.prog w = .ok (.func fn first cap) w := fun _ _ _ _ => rfl
  have h' := Lib.hid h
  have hset' := Lib.hid hset
  clear h hset
  go_enter_defers Tryd.func54, Tryd.ntmps54
  go_wp2_with fail
  try simp only [Array.empty_append, Array.append_empty]
  with_reducible refine Calls.mono h'.out ?_
  rintro r w2 ⟨rfl, hv, hn2⟩
  have c0 := hn2.cell 0
  have f0 := hn2.free 0
  have hv' := Lib.hid hv
  have hn2' := Lib.hid hn2
  clear hv hn2
  go_wp2
  refine leaves_cons (f := 62) (args := #[.pointer (some ⟨w.heap.size, 0, none⟩)]) (by simp) (by simp [go_sem]) ?_
  refine (catchH_idle ⟨w.heap.size, 0, none⟩ _).mono ?_
  rintro e u' w'' ⟨rfl, rfl, rfl⟩
  have c1 := (hn2'.out.put 0 (.int .i64 0)).cell 0
  simp [Leaves, settle, results, Tryd.results54, go_sem, c1]
  exact hset'.out _ _ hv'.out
set_option maxRecDepth 100000 in
set_option maxHeartbeats 2000000 in
theorem triedH_no (fn : FuncId) (cap : Array Value) (n : Int) (w : World) (V : World → Prop) (hen : ∀ args W, (callFunc fn args).run Tryd.prog W = .ok (.enter fn args) W) (hset : ∀ X u, V X → V ((X.setCell ⟨w.heap.size, 0, none⟩ u).alloc (.cells #[.int .i64 n] 112)))
    (h : Calls Tryd.prog fn cap (w.alloc (.cells #[.int .i64 0] 23)) fun r w' => r = gaveEH n ∧ V w' ∧ Has w' w.heap.size 23 #[.int .i64 0]) :
    Calls Tryd.prog 54 #[.func (.func fn) #[] cap] w fun r w' => r = .returned (.int .i64 n) ∧ V w' := by
  have hmf : ∀ (fn : Fn) (first cap : Array Value) (w : World), (Instr.makeFunc fn first cap).run Tryd.prog w = .ok (.func fn first cap) w := fun _ _ _ _ => rfl
  have h' := Lib.hid h
  have hset' := Lib.hid hset
  clear h hset
  go_enter_defers Tryd.func54, Tryd.ntmps54
  go_wp2_with fail
  try simp only [Array.empty_append, Array.append_empty]
  with_reducible refine Calls.mono h'.out ?_
  rintro r w2 ⟨rfl, hv, hn2⟩
  have hv' := Lib.hid hv
  have hn2' := Lib.hid hn2
  clear hv hn2
  refine leaves_cons (f := 62) (args := #[.pointer (some ⟨w.heap.size, 0, none⟩)]) (by simp) (by simp [go_sem]) ?_
  refine (catchH_no w.heap.size 0 n _ hn2'.out).mono ?_
  rintro e u' w'' ⟨rfl, rfl, rfl⟩
  have c1 := ((hn2'.out.put 0 (.int .i64 n)).alloc (.cells #[.int .i64 n] 112)).cell 0
  simp [Leaves, settle, results, Tryd.results54, go_sem, c1]
  exact hset'.out _ _ hv'.out
end Go.Proofs.YtabgpnieekcdhaaDoor
