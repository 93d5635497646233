import Derived.Test.YtbmemkbfignlaaaGreatDoorPk36
namespace Go.Proofs.YtbmemkbfignlaaaGreatDoor
open Go.RowKit Go.Shelf
attribute [local go_sem] Oper.semAt_some

/-! ## What is given up is caught -/
set_option maxRecDepth 100000 in
set_option maxHeartbeats 2000000 in
theorem catchA_idle (p : Addr) (w : World) :
    CallsD Tryz.prog 201 #[.pointer (some p)] .returning w fun e u' w' => e = .returned (.tuple #[]) ∧ u' = .returning ∧ w' = w := by
  refine callsD_of_wpS Tryz.func201 rfl fun c₀ cs hu => ?_
  apply wpS_seq
  apply wpS_region
  simp [wpOpsS, go_sem, recoverD, hu, Tryz.ntmps201, Exit.thenS]
  refine wpS_of_wp ?_
  go_wp2
  cases c₀
  simp_all [bodyPostS, results, Tryz.results201]
set_option maxRecDepth 100000 in
set_option maxHeartbeats 2000000 in
theorem catchA_no (b : Nat) (x : Int) (w : World) (hh : Has w b 42 #[.int .i64 x]) :
    CallsD Tryz.prog 201 #[.pointer (some ⟨b, 0, none⟩)] (.panicking gaveDA) w fun e u' w' =>
      e = .returned (.tuple #[]) ∧ u' = .panicking [{ v := gaveVA, recovered := true }] ∧ w' = (w.setCell ⟨b, 0, none⟩ (.int .i64 220)).alloc (.cells #[.int .i64 220] 232) := by
  refine callsD_of_wpS Tryz.func201 rfl fun c₀ cs hu => ?_
  apply wpS_seq
  apply wpS_region
  simp [wpOpsS, go_sem, recoverD, hu, Tryz.ntmps201, Exit.thenS, gaveDA]
  have c1 := (hh.alloc (.cells #[.int .i64 220] 232)).cell 0
  have f1 := (hh.alloc (.cells #[.int .i64 220] 232)).free 0
  have hlt := hh.lt
  clear hh
  have hne : ∀ W : World, (binOp BinOp.eql 20 (gaveVA) .nilIface).run Tryz.prog W = .ok (.bool false) W := fun _ => by kernel_rfl
  have hta : ∀ W : World, (Instr.typeAssert (gaveVA) 20 232 true).run Tryz.prog W = .ok (.tuple #[.agg #[.int .i64 220], .bool true]) W := fun _ => by kernel_rfl
  unfold gaveVA at hne hta ⊢
  refine wpS_of_wp ?_
  try simp only [Array.replicate_succ, Array.replicate_zero, List.push_toArray, List.append_toArray, List.nil_append, List.cons_append, List.setIfInBounds_toArray, List.set_cons_succ, List.set_cons_zero]
  go_wp2
  cases c₀
  simp_all [bodyPostS, results, Tryz.results201]
set_option maxRecDepth 100000 in
set_option maxHeartbeats 2000000 in
theorem triedA_yes (fn : FuncId) (cap : Array Value) (w : World) (V : World → Prop) (hen : ∀ args W, (callFunc fn args).run Tryz.prog W = .ok (.enter fn args) W) (hset : ∀ X u, V X → V (X.setCell ⟨w.heap.size, 0, none⟩ u))
    (h : Calls Tryz.prog fn cap (w.alloc (.cells #[.int .i64 0] 42)) fun r w' => r = .returned (.tuple #[]) ∧ V w' ∧ Has w' w.heap.size 42 #[.int .i64 0]) :
    Calls Tryz.prog 195 #[.func (.func fn) #[] cap] w fun r w' => r = .returned (.int .i64 0) ∧ V w' := by
  have hmf : ∀ (fn : Fn) (first cap : Array Value) (w : World), (Instr.makeFunc fn first cap).run Tryz.prog w = .ok (.func fn first cap) w := fun _ _ _ _ => rfl
  have h' := Lib.hid h
  have hset' := Lib.hid hset
  clear h hset
  go_enter_defers Tryz.func195, Tryz.ntmps195
  go_wp2_with fail
  try simp only [Array.empty_append, Array.append_empty]
  with_reducible refine Calls.mono h'.out ?_
  rintro r w2 ⟨rfl, hv, hn2⟩
  have c0 := hn2.cell 0
  have f0 := hn2.free 0
  have hv' := Lib.hid hv
  have hn2' := Lib.hid hn2
  clear hv hn2
  go_wp2
  refine leaves_cons (f := 201) (args := #[.pointer (some ⟨w.heap.size, 0, none⟩)]) (by simp) (by simp [go_sem]) ?_
  refine (catchA_idle ⟨w.heap.size, 0, none⟩ _).mono ?_
  rintro e u' w'' ⟨rfl, rfl, rfl⟩
  have c1 := (hn2'.out.put 0 (.int .i64 0)).cell 0
  simp [Leaves, settle, results, Tryz.results195, go_sem, c1]
  exact hset'.out _ _ hv'.out
set_option maxRecDepth 100000 in
set_option maxHeartbeats 2000000 in
theorem triedA_no (fn : FuncId) (cap : Array Value) (w : World) (V : World → Prop) (hen : ∀ args W, (callFunc fn args).run Tryz.prog W = .ok (.enter fn args) W) (hset : ∀ X u, V X → V ((X.setCell ⟨w.heap.size, 0, none⟩ u).alloc (.cells #[.int .i64 220] 232)))
    (h : Calls Tryz.prog fn cap (w.alloc (.cells #[.int .i64 0] 42)) fun r w' => r = gaveEA ∧ V w' ∧ Has w' w.heap.size 42 #[.int .i64 0]) :
    Calls Tryz.prog 195 #[.func (.func fn) #[] cap] w fun r w' => r = .returned (.int .i64 220) ∧ V w' := by
  have hmf : ∀ (fn : Fn) (first cap : Array Value) (w : World), (Instr.makeFunc fn first cap).run Tryz.prog w = .ok (.func fn first cap) w := fun _ _ _ _ => rfl
  have h' := Lib.hid h
  have hset' := Lib.hid hset
  clear h hset
  go_enter_defers Tryz.func195, Tryz.ntmps195
  go_wp2_with fail
  try simp only [Array.empty_append, Array.append_empty]
  with_reducible refine Calls.mono h'.out ?_
  rintro r w2 ⟨rfl, hv, hn2⟩
  have hv' := Lib.hid hv
  have hn2' := Lib.hid hn2
  clear hv hn2
  refine leaves_cons (f := 201) (args := #[.pointer (some ⟨w.heap.size, 0, none⟩)]) (by simp) (by simp [go_sem]) ?_
  refine (catchA_no w.heap.size 0 _ hn2'.out).mono ?_
  rintro e u' w'' ⟨rfl, rfl, rfl⟩
  have c1 := ((hn2'.out.put 0 (.int .i64 220)).alloc (.cells #[.int .i64 220] 232)).cell 0
  simp [Leaves, settle, results, Tryz.results195, go_sem, c1]
  exact hset'.out _ _ hv'.out
/-! ## Parse -/
theorem other_has {W : World} {k j i : Nat} {t : TypeId} {cs : Array Value} (h : Has W k t cs) (hn : k ≠ j) (u : Value) : Has (W.setCell ⟨j, i, none⟩ u) k t cs := (Below.heap_setCell W ⟨j, i, none⟩ u k hn).trans h
/-- What the deed has left, where a list was read. -/
def PrY (n : Nat) (l : List Ac.Rg) (w X : World) : Prop := ∃ v, Has X (n + 1) 111 #[v] ∧ RgO X (n + 3) v l ∧ Below n w X
theorem PrY.set {n : Nat} {l : List Ac.Rg} {w X : World} (h : PrY n l w X) (u : Value) : PrY n l w (X.setCell ⟨n + 2, 0, none⟩ u) := by
  obtain ⟨v, h1, h2, h3⟩ := h
  exact ⟨v, other_has h1 (by omega) u, h2.kept (fun g hg => Below.heap_setCell _ _ _ g (by show g ≠ n + 2; have := (h2.own g hg).1; omega)), h3.setCell (p := ⟨n + 2, 0, none⟩) (by show n ≤ n + 2; omega) u⟩
/-- The same, where it was given up. -/
def PrN (n : Nat) (w X : World) : Prop := Has X (n + 1) 111 #[.slice none 0 0] ∧ Below n w X ∧ n + 3 ≤ X.heap.size
theorem PrN.set {n : Nat} {w X : World} (h : PrN n w X) (u : Value) (o : Obj) : PrN n w ((X.setCell ⟨n + 2, 0, none⟩ u).alloc o) :=
  ⟨(other_has h.1 (by omega) u).alloc o, (h.2.1.setCell (p := ⟨n + 2, 0, none⟩) (by show n ≤ n + 2; omega) u).alloc (by have := h.2.2; simp [World.setCell]; omega) o, by have := h.2.2; simp [World.setCell]; omega⟩
set_option maxRecDepth 100000 in
set_option maxHeartbeats 4000000 in
theorem parse1A_yes (s : List UInt8) (l : List Ac.Rg) (hp : Ac.list s = some l) (hs : s.length ≤ 500000) (n : Nat) (w W : World) (hT : TabA W) (h0 : Has W n 9 #[.string ⟨s.toArray⟩]) (h2 : Has W (n + 1) 111 #[.slice none 0 0]) (he : Has W (n + 2) 42 #[.int .i64 0]) (hw : Below n w W) (hz : W.heap.size = n + 3) :
    Calls Tryz.prog 196 #[.pointer (some ⟨n, 0, none⟩), .pointer (some ⟨n + 1, 0, none⟩)] W fun r w' => r = .returned (.tuple #[]) ∧ PrY n l w w' ∧ Has w' (n + 2) 42 #[.int .i64 0] := by
  have hr := Lib.hid (acRead_any s W hT hs)
  rw [hp] at hr
  unfold ReadA at hr
  simp only at hr
  have c0 := h0.cell 0
  have h2' := Lib.hid h2
  have he' := Lib.hid he
  have hw' := Lib.hid hw
  clear h0 h2 he hT hp hw
  go_enter Tryz.func196, Tryz.ntmps196
  go_wp2_with (go_at_call 197; (with_reducible refine Calls.mono hr.out ?_); rintro e w3 ⟨⟨v, rfl, hv⟩, hb3⟩; obtain ⟨A, m, c, hvs⟩ := rgO_shape hv; subst hvs; have h3 := (h2'.out.below hb3 h2'.out.lt); have k0 := h3.cell 0; have f0 := h3.free 0; have h3' := Lib.hid h3; have hv' := Lib.hid hv; have hb3' := Lib.hid hb3; clear h3 hv hb3)
  go_end0
  have hv2 := hv'.out
  rw [hz] at hv2
  refine ⟨rfl, ⟨.slice A m c, by simpa using h3'.out.put 0 (.slice A m c), hv2.kept (fun g hg => Below.heap_setCell _ _ _ g (by show g ≠ n + 1; have := (hv2.own g hg).1; omega)), (hw'.out.trans (hb3'.out.mono (by omega))).setCell (p := ⟨n + 1, 0, none⟩) (by show n ≤ n + 1; omega) _⟩, other_has (he'.out.below hb3'.out he'.out.lt) (by omega) _⟩
set_option maxRecDepth 100000 in
set_option maxHeartbeats 4000000 in
theorem parse1A_no (s : List UInt8) (hp : Ac.list s = none) (hs : s.length ≤ 500000) (n : Nat) (w W : World) (hT : TabA W) (h0 : Has W n 9 #[.string ⟨s.toArray⟩]) (h2 : Has W (n + 1) 111 #[.slice none 0 0]) (he : Has W (n + 2) 42 #[.int .i64 0]) (hw : Below n w W) (hz : W.heap.size = n + 3) :
    Calls Tryz.prog 196 #[.pointer (some ⟨n, 0, none⟩), .pointer (some ⟨n + 1, 0, none⟩)] W fun r w' => r = gaveEA ∧ PrN n w w' ∧ Has w' (n + 2) 42 #[.int .i64 0] := by
  have hr := Lib.hid (acRead_any s W hT hs)
  rw [hp] at hr
  unfold ReadA at hr
  simp only at hr
  have c0 := h0.cell 0
  have h2' := Lib.hid h2
  have he' := Lib.hid he
  have hw' := Lib.hid hw
  clear h0 h2 he hT hp hw
  go_enter Tryz.func196, Tryz.ntmps196
  go_wp2_with (go_at_call 197; (with_reducible refine Calls.mono hr.out ?_); rintro e w3 ⟨rfl, hb3⟩; have hb3' := Lib.hid hb3; clear hb3)
  exact ⟨rfl, rfl, ⟨h2'.out.below hb3'.out h2'.out.lt, hw'.out.trans (hb3'.out.mono (by omega)), by have := hb3'.out.size; omega⟩, he'.out.below hb3'.out he'.out.lt⟩
set_option maxRecDepth 100000 in
set_option maxHeartbeats 8000000 in
theorem parseA_any (s : List UInt8) (w : World) (hT : TabA w) (hs : s.length ≤ 500000) : Calls Tryz.prog 183 #[.string ⟨s.toArray⟩] w (RgsR (Ac.list s) w) := by
  obtain ⟨n, hn⟩ : ∃ n, w.heap.size = n := ⟨_, rfl⟩
  have z0 : Has (w.alloc (.cells #[.string ⟨s.toArray⟩] 9)) n 9 #[.string ⟨s.toArray⟩] := by rw [← hn]; exact Has.new _ _ _
  obtain ⟨w1, h1⟩ : ∃ w1, w.alloc (.cells #[.string ⟨s.toArray⟩] 9) = w1 := ⟨_, rfl⟩
  have hz1 : w1.heap.size = n + 1 := by rw [← h1, ← hn]; simp
  rw [h1] at z0
  have z1 : Has (w1.alloc (.cells #[.slice none 0 0] 111)) (n + 1) 111 #[.slice none 0 0] := by rw [← hz1]; exact Has.new _ _ _
  have z0b := z0.alloc (.cells #[.slice none 0 0] 111)
  obtain ⟨w2, h2⟩ : ∃ w2, w1.alloc (.cells #[.slice none 0 0] 111) = w2 := ⟨_, rfl⟩
  have hz2 : w2.heap.size = n + 2 := by rw [← h2, World.size_alloc, hz1]
  rw [h2] at z1 z0b
  have hB : Below n w w2 := by
    rw [← h2, ← h1, ← hn]
    exact ((Below.refl _ _).alloc (Nat.le_refl _) _).alloc (by simp) _
  have e4 : Has (w2.alloc (.cells #[.int .i64 0] 42)) (n + 2) 42 #[.int .i64 0] := by rw [← hz2]; exact Has.new _ _ _
  have b4 : Below n w (w2.alloc (.cells #[.int .i64 0] 42)) := hB.alloc (by omega) _
  have hz4 : (w2.alloc (.cells #[.int .i64 0] 42)).heap.size = n + 3 := by rw [World.size_alloc, hz2]
  have hT4 : TabA (w2.alloc (.cells #[.int .i64 0] 42)) := hT.below (by rw [hn]; exact b4)
  have hen := enters_of (P := Tryz.prog) Tryz.func196 (by kernel_rfl) rfl
  have hmf : ∀ (fn : Fn) (first cap : Array Value) (w : World), (Instr.makeFunc fn first cap).run Tryz.prog w = .ok (.func fn first cap) w := fun _ _ _ _ => rfl
  obtain ⟨o, ho⟩ : ∃ o, Ac.list s = o := ⟨_, rfl⟩
  rw [ho]
  cases o with
  | none =>
    have ht := triedA_no 196 #[.pointer (some ⟨n, 0, none⟩), .pointer (some ⟨n + 1, 0, none⟩)] w2 (PrN n w) hen (fun X u h => by rw [hz2]; exact h.set u _) (by rw [hz2]; exact parse1A_no s ho hs n w _ hT4 (z0b.alloc _) (z1.alloc _) e4 b4 hz4)
    have ht' := Lib.hid ht
    clear z0 z0b z1 e4 b4 hz4 hT4 hT hB hen ht
    go_enter Tryz.func183, Tryz.ntmps183
    go_wp2_with (go_at_call 195; (with_reducible refine Calls.mono ht'.out ?_); rintro e w5 ⟨rfl, hh5, hb5, hz5⟩; have c0 := hh5.cell 0; have hb5' := Lib.hid hb5; clear hh5 hb5 hz5)
    go_ret2
    refine ⟨⟨none, 0, rfl, fun h => absurd h (by simp [orA])⟩, ?_⟩
    rw [hn]
    exact hb5'.out
  | some l =>
    have ht := triedA_yes 196 #[.pointer (some ⟨n, 0, none⟩), .pointer (some ⟨n + 1, 0, none⟩)] w2 (PrY n l w) hen (fun X u h => by rw [hz2]; exact h.set u) (by rw [hz2]; exact parse1A_yes s l ho hs n w _ hT4 (z0b.alloc _) (z1.alloc _) e4 b4 hz4)
    have ht' := Lib.hid ht
    clear z0 z0b z1 e4 b4 hz4 hT4 hT hB hen ht
    go_enter Tryz.func183, Tryz.ntmps183
    go_wp2_with (go_at_call 195; (with_reducible refine Calls.mono ht'.out ?_); rintro e w5 ⟨rfl, v, hh5, hv5, hb5⟩; obtain ⟨A, c, hvs, hrg⟩ := hv5.rgs; subst hvs; have c0 := hh5.cell 0; have hb5' := Lib.hid hb5; have hrg' := Lib.hid hrg; clear hh5 hb5 hv5 hrg)
    go_ret2
    refine ⟨⟨A, c, rfl, hrg'.out⟩, ?_⟩
    rw [hn]
    exact hb5'.out
end Go.Proofs.YtbmemkbfignlaaaGreatDoor
