import Derived.Test.YtbmemkbfignlaaaGreatDoorPk44
import Derived.Test.YtbmemkbfignlaaaGreatDoorPk17
import Derived.Test.YtbmemkbfignlaaaGreatDoorPk32
import Derived.Test.YtbmemkbfignlaaaGreatDoorPk18
import Derived.Test.YtbmemkbfignlaaaGreatDoorPk34
import Derived.Test.YtbmemkbfignlaaaGreatDoorPk24
import Derived.Test.YtbmemkbfignlaaaGreatDoorPk30
import Derived.Sort.BigQuietIn
import Derived.BigQuiet
import Derived.Deep.QuietTactic
import Derived.Deep.Cut
import Derived.Deep.RegionHeld3
namespace Go.Proofs.YtbmemkbfignlaaaGreatDoor
open Go.RowKit Go.Shelf
attribute [local go_sem] Oper.semAt_some
attribute [local go_sem] wideF_fn wideF_depth wideF_round

/-! ## The status of a look -/
theorem statuses_maker (b : Nat) (w : World) : Calls Tryz.prog 65 #[.pointer (some ⟨b, 0, none⟩)] w fun e w' => e = .returned (.func (.func 85) #[] #[.pointer (some ⟨w.heap.size, 0, none⟩)]) ∧ w' = w.alloc (.cells #[.pointer (some ⟨b, 0, none⟩)] 73) := by
  have hmf : ∀ (fn : Fn) (first cap : Array Value) (w : World), (Instr.makeFunc fn first cap).run Tryz.prog w = .ok (.func fn first cap) w := fun _ _ _ _ => rfl
  go_enter Tryz.func65, Tryz.ntmps65
  go_wp2
  go_ret
  exact ⟨rfl, rfl⟩
/-- What stands while none was so. -/
def StI (g : Nat → Bool) (n : Nat) (w : World) (pre : List Nat) (W : World) : Prop := (∀ y ∈ pre, g y = false) ∧ Has W n 3 #[.int .i64 0] ∧ Below n w W
/-- .. and where one was. -/
def StX (g : Nat → Bool) (n : Nat) (w : World) (id : Nat) (c : Code) (pre : List Nat) (W : World) : Prop :=
  c = .exit id ∧ (∃ p x, pre = p ++ [x] ∧ (∀ y ∈ p, g y = false) ∧ g x = true ∧ Has W n 3 #[.int .i64 (Rr.stat x : Int)]) ∧ Below n w W
def StM (s : Nat) (n : Nat) (w W : World) : Prop := Has W n 3 #[.int .i64 (s : Int)] ∧ Below n w W
theorem st_left {L : Rr.Lk} {n id : Nat} {w W : World} {c : Code} {pre : List Nat} (hs : ∃ j, j < 9 ∧ pre = List.range (j + 1)) (h : StX (Rr.chk L) n w id c pre W) : c = .exit id ∧ StM (Rr.status L) n w W := by
  obtain ⟨hc, ⟨p, x, rfl, h1, h2, h3⟩, h5⟩ := h
  obtain ⟨j, hj, e⟩ := hs
  rw [← range_snocR] at e
  obtain ⟨rfl, e2⟩ := List.append_inj' e rfl
  obtain rfl : x = j := by simpa using e2
  refine ⟨hc, ?_, h5⟩
  rw [Rr.status_at hj (fun i hi => h1 i (List.mem_range.2 hi)) h2]
  exact h3
theorem stI_from (g : Nat → Bool) (n : Nat) (w : World) (B : Nat) (hn : n ≤ w.heap.size) (hB : n < B) : OwnFrom B (StI g n w) :=
  OwnFrom.and (ownFrom_pure _ _) (OwnFrom.and (has_from (by omega) _ _) (ownFrom_below hn (by omega)))
theorem stX_from (g : Nat → Bool) (n id : Nat) (w : World) (B : Nat) (hn : n ≤ w.heap.size) (hB : n < B) (c : Code) : OwnFrom B (StX g n w id c) := by
  intro pre X Y row ⟨hc, ⟨p, x, e, h1, h2, h3⟩, h5⟩ hg hr
  refine ⟨hc, ⟨p, x, e, h1, h2, ?_⟩, ?_⟩
  · exact has_from (β := Unit) (B := B) (by omega) _ (fun _ => #[.int .i64 (Rr.stat x : Int)]) () X Y row h3 hg hr
  · exact ownFrom_below (β := Unit) hn (by omega) () X Y row h5 hg hr
set_option maxRecDepth 100000 in
set_option maxHeartbeats 8000000 in
theorem status_any (b : Nat) (L : Rr.Lk) (w : World) (hE : LkE w b L) (hF : FewLk L) (hT : TabA w) :
    Calls Tryz.prog 38 #[.pointer (some ⟨b, 0, none⟩)] w fun e w' => e = .returned (.int .i64 (Rr.status L : Int)) ∧ Below w.heap.size w w' := by
  obtain ⟨n, hn⟩ : ∃ n, w.heap.size = n := ⟨_, rfl⟩
  obtain ⟨w1, h1⟩ : ∃ w1, w.alloc (.cells #[.int .i64 0] 3) = w1 := ⟨_, rfl⟩
  have z0 : Has w1 n 3 #[.int .i64 0] := by rw [← h1, ← hn]; exact Has.new _ _ _
  have hz1 : w1.heap.size = n + 1 := by rw [← h1, ← hn]; simp
  have hB1 : Below n w w1 := by rw [← h1]; exact (Below.refl _ _).alloc (by omega) _
  obtain ⟨w2, h2⟩ : ∃ w2, w1.alloc (.cells #[.pointer (some ⟨b, 0, none⟩)] 73) = w2 := ⟨_, rfl⟩
  have z1 : Has w2 (n + 1) 73 #[.pointer (some ⟨b, 0, none⟩)] := by rw [← h2, ← hz1]; exact Has.new _ _ _
  have hz2 : w2.heap.size = n + 1 + 1 := by rw [← h2, World.size_alloc, hz1]
  have hB2 : Below n w w2 := by rw [← h2]; exact hB1.alloc (by omega) _
  have z02 : Has w2 n 3 #[.int .i64 0] := by rw [← h2]; exact z0.alloc _
  have c0 := z0.cell 0
  have f0 := z0.free 0
  have hset : w1.setCell ⟨n, 0, none⟩ (.int .i64 0) = w1 := by rw [← h1, ← hn]; simp [go_sem]
  have hm := Lib.hid (statuses_maker b w1)
  rw [h2, hz1] at hm
  have hseq := Lib.hid (stat1_seq b (n + 1) n n L w w2 hF hE hT hn hB2 z1 (by omega))
  have k0 := Lib.hid (show StI (Rr.chk L) n w [] w2 from ⟨fun _ h => (List.not_mem_nil h).elim, z02, hB2⟩)
  have h8 : Rr.chk L 8 = true := rfl
  clear z0 z1 hB1 hB2 z02 hE hT hF
  refine (callsIn_wide (n := 6)).1 ?_
  refine callsIn_of_wp_marks Tryz.func38 rfl trivial ?_ rfl
  refine wpIn_wide.2 ?_
  simp only [Tryz.ntmps38, List.size_toArray, List.length_cons, List.length_nil, Nat.reduceAdd, Nat.reduceSub, Array.replicate_succ, Array.replicate_zero, List.push_toArray, List.append_toArray, List.nil_append, List.cons_append]
  go_wp2
  go_step3
  go_wp2
  go_step3
  go_wp2_with (go_at_call 65; (with_reducible refine Calls.mono hm.out ?_); rintro e w5 ⟨rfl, hw5⟩; obtain rfl := hw5.symm)
  refine (wpIn_wide (n := 6)).1 ?_
  refine wpIn_range_own 0 (gf := 85) (lb := #[.pointer (some ⟨n + 1, 0, none⟩)]) rfl (enters_of Tryz.func85 (by kernel_rfl) rfl)
    hseq.out (fun h k => h.trans k) (fun W l o o' hl h1 h2 _ => KpS.putObj W l o o' (by omega) h1 h2) (Below.refl _ _) (fun _ => rfl)
    (StI (Rr.chk L) n w) (StX (Rr.chk L) n w 0) (StM (Rr.status L) n w)
    (stI_from _ n w _ (by omega) (by omega)) (stX_from _ n 0 w _ (by omega) (by omega))
    k0.out (fun xs W hx hi => by
      have := hi.1 8 (by rw [hx]; exact List.mem_range.2 (by omega))
      rw [h8] at this
      cases this) (fun _ _ _ h1 h2 => st_left h1 h2)
    ?a1 ?assign ?body (fun _ _ h => h) ?rest
  case assign =>
    intro l x V K hK
    have hK' := Lib.hid hK
    clear hK
    dsimp only [encSt]
    gi_wp2
    exact hK'.out
  case body =>
    rintro l pre x V ⟨g1, g2, g3⟩ hlen
    have y2 := g2.cell 0
    have f2 := g2.free 0
    have g1' := Lib.hid g1
    have g2' := Lib.hid g2
    have g3' := Lib.hid g3
    clear g1 g2 g3
    cases hg : Rr.chk L x with
    | true =>
      gi_wp2
      refine ⟨(KeepsOthers.setCell _ _ _).from _, rfl, ⟨pre, x, rfl, g1'.out, hg, ?_⟩, g3'.out.setCell (p := ⟨n, 0, none⟩) (by show n ≤ n; omega) _⟩
      have := g2'.out.put 0 (.int .i64 (Rr.stat x : Int))
      simpa using this
    | false =>
      gi_wp2
      refine ⟨KeepsFrom.refl _ _, KpS.refl _ _ _, ?_, g2'.out, g3'.out⟩
      intro y hy
      rcases List.mem_append.1 hy with h | h
      · exact g1'.out y h
      · rw [List.mem_singleton.1 h]; exact hg
  case rest =>
    intro D V hD hM hk
    have hk' := Lib.hid hk
    obtain ⟨m1, m2⟩ := hM
    have m2' := Lib.hid m2
    have y2 := m1.cell 0
    clear hk m1 m2
    go_wp2
    rw [Exit.noGoto_ret]
    refine ⟨by simp, .inl ⟨_, _, rfl, run_takeDeferred hk'.out, ?_⟩⟩
    refine ⟨.int .i64 (Rr.status L : Int), ?_, rfl, ?_⟩
    · simp [results, Tryz.results38, go_sem]
    · rw [hn]
      exact m2'.out.trans (belowK_b (w := w) (Nat.le_of_eq hn.symm) V D _ _ (by omega) hk'.out rfl rfl)
end Go.Proofs.YtbmemkbfignlaaaGreatDoor

namespace Go.Proofs.YtbmemkbfignlaaaGreatDoor
open Go.RowKit Go.Shelf
attribute [local go_sem] Oper.semAt_some

/-! ## What is wrong is given up by -/
def gaveVH (n : Int) : Value := .iface 149 (.agg #[.int .i64 n])
def gaveDH (n : Int) : List PanicEntry := [{ v := gaveVH n, recovered := false }]
abbrev gaveEH (n : Int) : Ending := .panicked (gaveDH n)
theorem mustH_yes (n : Int) (w : World) : Calls Tryz.prog 108 #[.bool true, .int .i64 n] w fun e w' => e = .returned (.tuple #[]) ∧ w' = w := by
  go_enter Tryz.func108, Tryz.ntmps108
  go_wp2
  go_end0
  exact ⟨rfl, rfl⟩
theorem mustH_no (n : Int) (w : World) : Calls Tryz.prog 108 #[.bool false, .int .i64 n] w fun e w' => e = gaveEH n ∧ w' = w := by
  go_enter Tryz.func108, Tryz.ntmps108
  go_wp2
  exact ⟨rfl, rfl, rfl⟩
/-! ## What is given up is caught -/
set_option maxRecDepth 100000 in
set_option maxHeartbeats 2000000 in
theorem catchH_idle (p : Addr) (w : World) :
    CallsD Tryz.prog 107 #[.pointer (some p)] .returning w fun e u' w' => e = .returned (.tuple #[]) ∧ u' = .returning ∧ w' = w := by
  refine callsD_of_wpS Tryz.func107 rfl fun c₀ cs hu => ?_
  apply wpS_seq
  apply wpS_region
  simp [wpOpsS, go_sem, recoverD, hu, Tryz.ntmps107, Exit.thenS]
  refine wpS_of_wp ?_
  go_wp2
  cases c₀
  simp_all [bodyPostS, results, Tryz.results107]
set_option maxRecDepth 100000 in
set_option maxHeartbeats 2000000 in
theorem catchH_no (b : Nat) (x n : Int) (w : World) (hh : Has w b 42 #[.int .i64 x]) :
    CallsD Tryz.prog 107 #[.pointer (some ⟨b, 0, none⟩)] (.panicking (gaveDH n)) w fun e u' w' =>
      e = .returned (.tuple #[]) ∧ u' = .panicking [{ v := gaveVH n, recovered := true }] ∧ w' = (w.setCell ⟨b, 0, none⟩ (.int .i64 n)).alloc (.cells #[.int .i64 n] 149) := by
  refine callsD_of_wpS Tryz.func107 rfl fun c₀ cs hu => ?_
  apply wpS_seq
  apply wpS_region
  simp [wpOpsS, go_sem, recoverD, hu, Tryz.ntmps107, Exit.thenS, gaveDH]
  have c1 := (hh.alloc (.cells #[.int .i64 n] 149)).cell 0
  have f1 := (hh.alloc (.cells #[.int .i64 n] 149)).free 0
  have hlt := hh.lt
  clear hh
  have hne : ∀ W : World, (binOp BinOp.eql 20 (gaveVH n) .nilIface).run Tryz.prog W = .ok (.bool false) W := fun _ => by kernel_rfl
  have hta : ∀ W : World, (Instr.typeAssert (gaveVH n) 20 149 true).run Tryz.prog W = .ok (.tuple #[.agg #[.int .i64 n], .bool true]) W := fun _ => by kernel_rfl
  unfold gaveVH at hne hta ⊢
  refine wpS_of_wp ?_
  try simp only [Array.replicate_succ, Array.replicate_zero, List.push_toArray, List.append_toArray, List.nil_append, List.cons_append, List.setIfInBounds_toArray, List.set_cons_succ, List.set_cons_zero]
  go_wp2
  cases c₀
  simp_all [bodyPostS, results, Tryz.results107]
set_option maxRecDepth 100000 in
set_option maxHeartbeats 2000000 in
theorem triedH_yes (fn : FuncId) (cap : Array Value) (w : World) (V : World → Prop) (hen : ∀ args W, (callFunc fn args).run Tryz.prog W = .ok (.enter fn args) W) (hset : ∀ X u, V X → V (X.setCell ⟨w.heap.size, 0, none⟩ u))
    (h : Calls Tryz.prog fn cap (w.alloc (.cells #[.int .i64 0] 42)) fun r w' => r = .returned (.tuple #[]) ∧ V w' ∧ Has w' w.heap.size 42 #[.int .i64 0]) :
    Calls Tryz.prog 81 #[.func (.func fn) #[] cap] w fun r w' => r = .returned (.int .i64 0) ∧ V w' := by
  have hmf : ∀ (fn : Fn) (first cap : Array Value) (w : World), (Instr.makeFunc fn first cap).run Tryz.prog w = .ok (.func fn first cap) w := fun _ _ _ _ => rfl
  have h' := Lib.hid h
  have hset' := Lib.hid hset
  clear h hset
  go_enter_defers Tryz.func81, Tryz.ntmps81
  go_wp2_with fail
  try simp only [Array.empty_append, Array.append_empty]
  with_reducible refine Calls.mono h'.out ?_
  rintro r w2 ⟨rfl, hv, hn2⟩
  have c0 := hn2.cell 0
  have f0 := hn2.free 0
  have hv' := Lib.hid hv
  have hn2' := Lib.hid hn2
  clear hv hn2
  go_wp2
  refine leaves_cons (f := 107) (args := #[.pointer (some ⟨w.heap.size, 0, none⟩)]) (by simp) (by simp [go_sem]) ?_
  refine (catchH_idle ⟨w.heap.size, 0, none⟩ _).mono ?_
  rintro e u' w'' ⟨rfl, rfl, rfl⟩
  have c1 := (hn2'.out.put 0 (.int .i64 0)).cell 0
  simp [Leaves, settle, results, Tryz.results81, go_sem, c1]
  exact hset'.out _ _ hv'.out
set_option maxRecDepth 100000 in
set_option maxHeartbeats 2000000 in
theorem triedH_no (fn : FuncId) (cap : Array Value) (n : Int) (w : World) (V : World → Prop) (hen : ∀ args W, (callFunc fn args).run Tryz.prog W = .ok (.enter fn args) W) (hset : ∀ X u, V X → V ((X.setCell ⟨w.heap.size, 0, none⟩ u).alloc (.cells #[.int .i64 n] 149)))
    (h : Calls Tryz.prog fn cap (w.alloc (.cells #[.int .i64 0] 42)) fun r w' => r = gaveEH n ∧ V w' ∧ Has w' w.heap.size 42 #[.int .i64 0]) :
    Calls Tryz.prog 81 #[.func (.func fn) #[] cap] w fun r w' => r = .returned (.int .i64 n) ∧ V w' := by
  have hmf : ∀ (fn : Fn) (first cap : Array Value) (w : World), (Instr.makeFunc fn first cap).run Tryz.prog w = .ok (.func fn first cap) w := fun _ _ _ _ => rfl
  have h' := Lib.hid h
  have hset' := Lib.hid hset
  clear h hset
  go_enter_defers Tryz.func81, Tryz.ntmps81
  go_wp2_with fail
  try simp only [Array.empty_append, Array.append_empty]
  with_reducible refine Calls.mono h'.out ?_
  rintro r w2 ⟨rfl, hv, hn2⟩
  have hv' := Lib.hid hv
  have hn2' := Lib.hid hn2
  clear hv hn2
  refine leaves_cons (f := 107) (args := #[.pointer (some ⟨w.heap.size, 0, none⟩)]) (by simp) (by simp [go_sem]) ?_
  refine (catchH_no w.heap.size 0 n _ hn2'.out).mono ?_
  rintro e u' w'' ⟨rfl, rfl, rfl⟩
  have c1 := ((hn2'.out.put 0 (.int .i64 n)).alloc (.cells #[.int .i64 n] 149)).cell 0
  simp [Leaves, settle, results, Tryz.results81, go_sem, c1]
  exact hset'.out _ _ hv'.out
end Go.Proofs.YtbmemkbfignlaaaGreatDoor

namespace Go.Proofs.YtbmemkbfignlaaaGreatDoor
open Go.RowKit Go.Shelf
attribute [local go_sem] Oper.semAt_some
attribute [local go_sem] wideF_fn wideF_depth wideF_round

/-! ## head.Check, of a head that may be -/
theorem begins_yes (f : List UInt8) (w : World) (h : Rr.beginsB f = true) : Calls Tryz.prog 109 #[.string ⟨f.toArray⟩] w fun e w' => e = .returned (.bool true) ∧ w' = w := by
  have hp : Lib.hasPrefix f [32] = false := by
    cases f with
    | nil => rfl
    | cons b r =>
      unfold Rr.beginsB at h
      simp at h
      simp [Lib.hasPrefix, List.isPrefixOf]
      exact fun e => h e.symm
  have hne : f.isEmpty = false := by
    cases f with
    | nil => cases h
    | cons b r => rfl
  have hs := Tryz.strings_HasPrefix ⟨f.toArray⟩ ⟨#[32]⟩ w
  rw [show (⟨f.toArray⟩ : ByteArray).data.toList = f from rfl, show (⟨#[32]⟩ : ByteArray).data.toList = [32] from rfl, hp] at hs
  have hs' := Lib.hid hs
  clear hs hp h
  go_enter Tryz.func109, Tryz.ntmps109
  go_wp2_with (go_at_call 131; (with_reducible refine Calls.mono hs'.out ?_); rintro e w2 ⟨rfl, hw2⟩; obtain rfl := hw2.symm)
  go_ret
  exact ⟨rfl, rfl⟩
theorem ofValue_yes (f : List UInt8) (w : World) (hf : f.length ≤ 1000000) (h : Rr.bytesB f = true) : Calls Tryz.prog 110 #[.string ⟨f.toArray⟩] w fun e w' => e = .returned (.bool true) ∧ Below w.heap.size w w' := by
  have h1 := Lib.hid (value_any f w hf)
  have h2 := Lib.hid (fun W => trim_any f W hf)
  have h3 := Lib.hid (fun W => value_any (trimL f) W (Nat.le_trans (trimL_len f) hf))
  unfold BoolR at h1 h3
  unfold StrR at h2
  unfold Rr.bytesB at h
  cases hv : valueL f with
  | true =>
    rw [hv] at h1
    clear h h2 h3 hv
    go_enter Tryz.func110, Tryz.ntmps110
    go_wp2_with (go_at_call 55; (with_reducible refine Calls.mono h1.out ?_); rintro e w2 ⟨rfl, hb2⟩; have hb2' := Lib.hid hb2; clear hb2)
    go_ret
    exact ⟨rfl, hb2'.out⟩
  | false =>
    rw [hv] at h h1
    have hv2 : valueL (trimL f) = true := by simpa using h
    rw [hv2] at h3
    clear h hv hv2
    generalize trimL f = t at *
    go_enter Tryz.func110, Tryz.ntmps110
    go_wp2_with (first
      | (go_at_call 55; (with_reducible refine Calls.mono h1.out ?_); rintro e w2 ⟨rfl, hb2⟩; have hb2' := Lib.hid hb2; clear hb2)
      | (go_at_call 139; (with_reducible refine Calls.mono (h2.out _) ?_); rintro e w3 ⟨rfl, hb3⟩; have hb3' := Lib.hid (below_on hb2'.out hb3); clear hb3)
      | (go_at_call 55; (with_reducible refine Calls.mono (h3.out _) ?_); rintro e w4 ⟨rfl, hb4⟩; have hb4' := Lib.hid (below_on hb3'.out hb4); clear hb4))
    go_ret
    exact ⟨rfl, hb4'.out⟩
set_option maxRecDepth 100000 in
set_option maxHeartbeats 8000000 in
theorem mustBe_yes (f : List UInt8) (A : Option Addr) (c : Nat) (l : List PairL) (w : World) (hf : f.length ≤ 1000000) (hl : l.length ≤ 1000) (hq : ∀ q ∈ l, q.1.length ≤ 100000 ∧ q.2.length ≤ 100000) (hx : Prs w A l) (hh : Rr.headB f l = true) :
    Calls Tryz.prog 83 #[.agg #[.string ⟨f.toArray⟩, .slice A l.length c]] w fun e w' => e = .returned (.tuple #[]) ∧ Below w.heap.size w w' := by
  unfold Rr.headB at hh
  rw [Bool.and_eq_true, Bool.and_eq_true] at hh
  obtain ⟨⟨hh1, hh2⟩, hh3⟩ := hh
  obtain ⟨n, hn⟩ : ∃ n, w.heap.size = n := ⟨_, rfl⟩
  obtain ⟨w1, hw1⟩ : ∃ w1, w.alloc (.cells #[.string ⟨f.toArray⟩, .slice A l.length c] 28) = w1 := ⟨_, rfl⟩
  have hB1 : Below w.heap.size w w1 := by rw [← hw1]; exact (Below.refl _ _).alloc (Nat.le_refl _) _
  have z0 : Has w1 n 28 #[.string ⟨f.toArray⟩, .slice A l.length c] := by rw [← hw1, ← hn]; exact Has.new _ _ _
  have c0 := z0.cell 0
  have hb := Lib.hid (begins_yes f w1 hh1)
  have ho := Lib.hid (ofValue_yes f w1 hf hh2)
  have hm := Lib.hid (fun W => mustH_yes 2 W)
  have z0' := Lib.hid z0
  have hB1' := Lib.hid hB1
  have hx1 := Lib.hid (hx.below hB1)
  have hq' := Lib.hid hq
  have hh3' := Lib.hid hh3
  have hli : (l.length : Int) ≤ 1000 := by omega
  clear hB1 z0 hx hq hh1 hh2 hh3
  go_enter Tryz.func83, Tryz.ntmps83
  go_upto_region 2 with (first
    | (go_at_call 109; (with_reducible refine Calls.mono hb.out ?_); rintro e w7 ⟨rfl, hw7⟩; obtain rfl := hw7.symm)
    | (go_at_call 110; (with_reducible refine Calls.mono ho.out ?_); rintro e w2 ⟨rfl, hb2⟩; have c1 := (z0'.out.below hb2 z0'.out.lt).cell 1; have hb2' := Lib.hid (below_on hB1'.out hb2); have hx2 := Lib.hid (hx1.out.below hb2); clear hb2)
    | (go_at_call 108; (with_reducible refine Calls.mono (hm.out _) ?_); rintro e w8 ⟨rfl, hw8⟩; obtain rfl := hw8.symm))
  go_wp2
  go_loopw [3, 16] (fun _ x W => ∃ k : Nat, k ≤ l.length ∧ x = .int .i64 (k : Int) ∧ Below w2.heap.size w2 W) (fun _ x _ => l.length - (intOf x).toNat)
  case atStart => exact ⟨0, Nat.zero_le _, rfl, Below.refl _ _⟩
  case round =>
    obtain ⟨k, hk, rfl, hbr⟩ := hrel
    by_cases hlt : k < l.length
    · have hltI : (k : Int) < (l.length : Int) := by omega
      obtain ⟨b, o, rfl, hbl, hcs⟩ := (hx2.out.below hbr) (by omega)
      obtain ⟨q, hqk⟩ : ∃ q, l[k] = q := ⟨_, rfl⟩
      obtain ⟨d0, d1⟩ := hcs k q (by rw [List.getElem?_eq_getElem hlt, hqk])
      have hql := hq'.out q (by rw [← hqk]; exact List.getElem_mem hlt)
      have hfb : Rr.fieldB q = true := List.all_eq_true.1 hh3'.out q (by rw [← hqk]; exact List.getElem_mem hlt)
      unfold Rr.fieldB at hfb
      rw [Bool.and_eq_true, Bool.and_eq_true] at hfb
      obtain ⟨⟨ht, hlo⟩, hv⟩ := hfb
      have hlo : lowerL q.1 = q.1 := beq_iff_eq.1 hlo
      clear hcs hqk
      obtain ⟨q1, q2⟩ := q
      simp only at d0 d1 hql ht hlo hv
      have hnw := Has.new wr 56 #[.string ⟨q1.toArray⟩, .string ⟨q2.toArray⟩]
      have hbw := (Below.refl wr.heap.size wr).alloc (Nat.le_refl _) (.cells #[.string ⟨q1.toArray⟩, .string ⟨q2.toArray⟩] 56)
      obtain ⟨w4, hw4⟩ : ∃ w4, wr.alloc (.cells #[.string ⟨q1.toArray⟩, .string ⟨q2.toArray⟩] 56) = w4 := ⟨_, rfl⟩
      rw [hw4] at hnw hbw
      have x0 := fun (V' : Grown w4) => (hnw.below V'.below hnw.lt).cell 0
      have x1 := fun (V' : Grown w4) => (hnw.below V'.below hnw.lt).cell 1
      have t1 := Lib.hid (fun (V' : Grown w4) => callsIn_wide (n := 5 - 1).2 (grow_call V' (show Calls Tryz.prog 111 #[.string ⟨q1.toArray⟩] V'.v fun e w' => e = .returned (.bool true) ∧ Below V'.v.heap.size V'.v w' from by rw [← ht]; exact token_any q1 V'.v (by omega))))
      have t2 := Lib.hid (fun (V' : Grown w4) => callsIn_wide (n := 5 - 1).2 (grow_call V' (show Calls Tryz.prog 112 #[.string ⟨q1.toArray⟩] V'.v fun e w' => e = .returned (.string ⟨q1.toArray⟩) ∧ Below V'.v.heap.size V'.v w' from by have := lower_any q1 V'.v (by omega); rw [hlo] at this; exact this)))
      have t3 := Lib.hid (fun (V' : Grown w4) => callsIn_wide (n := 5 - 1).2 (grow_call V' (show Calls Tryz.prog 55 #[.string ⟨q2.toArray⟩] V'.v fun e w' => e = .returned (.bool true) ∧ Below V'.v.heap.size V'.v w' from by rw [← hv]; exact value_any q2 V'.v (by omega))))
      have t4 := Lib.hid (fun (V' : Grown w4) => callsIn_wide (n := 5 - 1).2 (grow_call V' ((hm.out V'.v).mono (fun e w' ⟨h1, h2⟩ => (⟨h1, by rw [h2]; exact Below.refl _ _⟩ : e = .returned (.tuple #[]) ∧ Below V'.v.heap.size V'.v w')))))
      have hbw' := Lib.hid hbw
      have hbr' := Lib.hid hbr
      have hw4' := Lib.hid hw4
      clear hnw hbw hbr hw4 ht hlo hv
      go_upto_region 5 with (fail)
      rw [hw4'.out]
      refine (wpIn_wide (n := 5)).1 ?_
      refine wpIn_region_grow (by kernel_rfl) (by kernel_rfl) (by kernel_rfl) ?_
      try dsimp only
      iterate 17 (gi_big_quiet_step (first
        | (gi_at_call 111; exact t1.out _)
        | (gi_at_call 112; exact t2.out _)
        | (gi_at_call 55; exact t3.out _)
        | (gi_at_call 108; exact t4.out _)))
      refine wpQuietIn_nil ?_
      intro _ hw'
      obtain ⟨V', hw''⟩ := hw'
      subst hw''
      have hbV := Lib.hid V'.below
      go_wp2
      exact ⟨⟨k + 1, by omega, by go_num, below_on (below_on hbr'.out hbw'.out) hbV.out⟩, by simp [intOf]; omega⟩
    · obtain rfl : k = l.length := by omega
      have hbr' := Lib.hid hbr
      clear hbr
      go_wp2
      go_end0
      exact ⟨rfl, below_on hb2'.out hbr'.out⟩
set_option maxRecDepth 100000 in
theorem check_yes (f : List UInt8) (A : Option Addr) (c : Nat) (l : List PairL) (w : World) (hf : f.length ≤ 1000000) (hl : l.length ≤ 1000) (hq : ∀ q ∈ l, q.1.length ≤ 100000 ∧ q.2.length ≤ 100000) (hx : Prs w A l) (hh : Rr.headB f l = true) :
    Calls Tryz.prog 63 #[.agg #[.string ⟨f.toArray⟩, .slice A l.length c]] w fun e w' => e = .returned (.int .i64 0) ∧ Below w.heap.size w w' := by
  obtain ⟨n, hn⟩ : ∃ n, w.heap.size = n := ⟨_, rfl⟩
  obtain ⟨w1, hw1⟩ : ∃ w1, w.alloc (.cells #[.string ⟨f.toArray⟩, .slice A l.length c] 28) = w1 := ⟨_, rfl⟩
  have hB1 : Below w.heap.size w w1 := by rw [← hw1]; exact (Below.refl _ _).alloc (Nat.le_refl _) _
  have z0 : Has w1 n 28 #[.string ⟨f.toArray⟩, .slice A l.length c] := by rw [← hw1, ← hn]; exact Has.new _ _ _
  have hz1 : w1.heap.size = n + 1 := by rw [← hw1, World.size_alloc, hn]
  have hB2 : Below w1.heap.size w1 (w1.alloc (.cells #[.int .i64 0] 42)) := (Below.refl _ _).alloc (Nat.le_refl _) _
  have he2 := Has.new w1 42 #[.int .i64 0]
  have z02 := z0.below hB2 z0.lt
  have k0 := z02.cell 0
  have k1 := z02.cell 1
  have hen := enters_of (P := Tryz.prog) Tryz.func82 (by kernel_rfl) rfl
  have hmf : ∀ (fn : Fn) (first cap : Array Value) (w : World), (Instr.makeFunc fn first cap).run Tryz.prog w = .ok (.func fn first cap) w := fun _ _ _ _ => rfl
  have hmb := Lib.hid (mustBe_yes f A c l (w1.alloc (.cells #[.int .i64 0] 42)) hf hl hq ((hx.below hB1).below hB2) hh)
  have hc1 : Calls Tryz.prog 82 #[.pointer (some ⟨n, 0, none⟩)] (w1.alloc (.cells #[.int .i64 0] 42)) fun e w' => e = .returned (.tuple #[]) ∧ Below w1.heap.size w1 w' ∧ Has w' w1.heap.size 42 #[.int .i64 0] := by
    have hB2' := Lib.hid hB2
    have he2' := Lib.hid he2
    clear hB1 hB2 he2 z0 z02 hx
    go_enter Tryz.func82, Tryz.ntmps82
    go_wp2_with (go_at_call 83; (with_reducible refine Calls.mono hmb.out ?_); rintro e w3 ⟨rfl, hb3⟩; have hb3' := Lib.hid hb3; clear hb3)
    go_end0
    exact ⟨rfl, below_on hB2'.out hb3'.out, he2'.out.below hb3'.out he2'.out.lt⟩
  have ht := Lib.hid (triedH_yes 82 #[.pointer (some ⟨n, 0, none⟩)] w1 (fun X => Below w1.heap.size w1 X) hen (fun X u h => h.setCell (p := ⟨w1.heap.size, 0, none⟩) (Nat.le_refl _) u) hc1)
  have hB1' := Lib.hid hB1
  clear hB1 hB2 he2 z0 z02 k0 k1 hen hmb hc1 hx
  go_enter Tryz.func63, Tryz.ntmps63
  go_wp2_with (go_at_call 81; (with_reducible refine Calls.mono ht.out ?_); rintro e w3 ⟨rfl, hb3⟩; have hb3' := Lib.hid hb3; clear hb3)
  go_ret
  exact ⟨rfl, below_on hB1'.out hb3'.out⟩
end Go.Proofs.YtbmemkbfignlaaaGreatDoor

namespace Go.Proofs.YtbmemkbfignlaaaGreatDoor
open Go.RowKit Go.Shelf
attribute [local go_sem] Oper.semAt_some

/-! ## A look at a head that may be -/
theorem offR {W : World} {k p i j : Nat} {x : Value} (hn : p ≠ k) (h : W.cell? ⟨p, j, none⟩ = some x) (u : Value) : (W.setCell ⟨k, i, none⟩ u).cell? ⟨p, j, none⟩ = some x :=
  (World.cell?_of_block (Below.heap_setCell W ⟨k, i, none⟩ u p hn)).trans h
theorem parseU_any (s : List UInt8) (w : World) (hT : TabT w) (hs : s.length ≤ 600000) : Calls Tryz.prog 54 #[.string ⟨s.toArray⟩] w fun e w' =>
    (∃ A1 c1 A2 c2, e = .returned (.tuple #[.agg #[.slice A1 ((parseTg s).getD ([], [])).1.length c1, .slice A2 ((parseTg s).getD ([], [])).2.length c2], .int .i64 (if (parseTg s).isSome = true then 0 else 210)]) ∧ Txs w' A1 ((parseTg s).getD ([], [])).1 ∧ Prs w' A2 ((parseTg s).getD ([], [])).2 ∧
      (∀ b o, A1 = some ⟨b, o, none⟩ → w.heap.size ≤ b) ∧ (∀ b o, A2 = some ⟨b, o, none⟩ → w.heap.size ≤ b)) ∧ Below w.heap.size w w' := by
  have h := parseT_any s w hT hs
  unfold ParseF at h
  cases hp : parseTg s with
  | none =>
    rw [hp] at h
    refine h.mono ?_
    rintro e w' ⟨rfl, hb⟩
    exact ⟨⟨none, 0, none, 0, rfl, fun h => absurd h (by simp), fun h => absurd h (by simp), (fun b o e => by cases e), (fun b o e => by cases e)⟩, hb⟩
  | some t =>
    rw [hp] at h
    refine h.mono ?_
    rintro e w' ⟨⟨A1, c1, A2, c2, rfl, h1, h2, h3⟩, hb⟩
    exact ⟨⟨A1, c1, A2, c2, rfl, h1, h2, h3⟩, hb⟩
theorem Txs.off {W : World} {B : Option Addr} {t : List (List UInt8)} {k n0 : Nat} (h : Txs W B t) (hf : ∀ b o, B = some ⟨b, o, none⟩ → n0 ≤ b) (hk : k < n0) {i : Nat} (u : Value) : Txs (W.setCell ⟨k, i, none⟩ u) B t := fun h0 => by
  obtain ⟨b, o, rfl, hlt, hc⟩ := h h0
  have := hf b o rfl
  exact ⟨b, o, rfl, by simpa [World.setCell] using hlt, fun i x hx => offR (by omega) (hc i x hx) u⟩
theorem Prs.off {W : World} {B : Option Addr} {t : List PairL} {k n0 : Nat} (h : Prs W B t) (hf : ∀ b o, B = some ⟨b, o, none⟩ → n0 ≤ b) (hk : k < n0) {i : Nat} (u : Value) : Prs (W.setCell ⟨k, i, none⟩ u) B t := fun h0 => by
  obtain ⟨b, o, rfl, hlt, hc⟩ := h h0
  have := hf b o rfl
  refine ⟨b, o, rfl, by simpa [World.setCell] using hlt, fun i x hx => ?_⟩
  obtain ⟨h1, h2⟩ := hc i x hx
  exact ⟨offR (by omega) h1 u, offR (by omega) h2 u⟩
/-- A look whose target lies in blocks from a block on. -/
structure LkF (W : World) (n0 b : Nat) (L : Rr.Lk) : Prop where
  box : ∃ A c B1 c1 B2 c2, Has W b 104 #[.string ⟨L.f.toArray⟩, .slice A L.l.length c, .string ⟨L.method.toArray⟩, .string ⟨L.version.toArray⟩, .slice B1 L.t.1.length c1, .slice B2 L.t.2.length c2, .bool L.aims] ∧
    Prs W A L.l ∧ Txs W B1 L.t.1 ∧ Prs W B2 L.t.2 ∧ (∀ b o, B1 = some ⟨b, o, none⟩ → n0 ≤ b) ∧ (∀ b o, B2 = some ⟨b, o, none⟩ → n0 ≤ b)
theorem LkF.lk {W : World} {n0 b : Nat} {L : Rr.Lk} (h : LkF W n0 b L) : LkE W b L := by
  obtain ⟨A, c, B1, c1, B2, c2, h1, h2, h3, h4, -⟩ := h.box
  exact ⟨A, c, B1, c1, B2, c2, h1, h2, h3, h4⟩
theorem LkF.below {W W' : World} {n0 b : Nat} {L : Rr.Lk} (h : LkF W n0 b L) (hb : Below W.heap.size W W') : LkF W' n0 b L := by
  obtain ⟨A, c, B1, c1, B2, c2, h1, h2, h3, h4, h5⟩ := h.box
  exact ⟨A, c, B1, c1, B2, c2, h1.below hb h1.lt, h2.below hb, h3.below hb, h4.below hb, h5⟩
set_option maxRecDepth 100000 in
set_option maxHeartbeats 8000000 in
theorem looked_any (f : List UInt8) (A : Option Addr) (c : Nat) (l : List PairL) (w : World) (hT : TabT w) (hf : f.length ≤ 1000) (hl : l.length ≤ 5) (hq : ∀ q ∈ l, q.1.length ≤ 1000 ∧ q.2.length ≤ 1000) (hx : Prs w A l) (hh : Rr.headB f l = true) :
    Calls Tryz.prog 37 #[.agg #[.string ⟨f.toArray⟩, .slice A l.length c]] w fun e w' => (∃ b, e = .returned (.pointer (some ⟨b, 0, none⟩)) ∧ LkF w' w.heap.size b (Rr.lkOf f l)) ∧ Below w.heap.size w w' := by
  obtain ⟨n, hn⟩ : ∃ n, w.heap.size = n := ⟨_, rfl⟩
  obtain ⟨w1, hw1⟩ : ∃ w1, w.alloc (.cells #[.string ⟨f.toArray⟩, .slice A l.length c] 28) = w1 := ⟨_, rfl⟩
  have hB1 : Below w.heap.size w w1 := by rw [← hw1]; exact (Below.refl _ _).alloc (Nat.le_refl _) _
  have z0 : Has w1 n 28 #[.string ⟨f.toArray⟩, .slice A l.length c] := by rw [← hw1, ← hn]; exact Has.new _ _ _
  have c0 := z0.cell 0
  have c1 := z0.cell 1
  have hck := Lib.hid (check_yes f A c l w1 (by omega) (by omega) (fun q h => by have := hq q h; omega) (hx.below hB1) hh)
  have hm := Lib.hid (fun W => mustR_yes 2 W)
  have l1 := Ac.tw_len 32 f
  have l2 := Ac.bh_len 32 f
  have l3 := Ac.tw_len 32 (Ac.bh 32 f)
  have l4 := Ac.bh_len 32 (Ac.bh 32 f)
  have hc1 := Lib.hid (fun W (h : TabA W) => cutA_any 32 f W (by omega) h)
  have hc2 := Lib.hid (fun W (h : TabA W) => cutA_any 32 (Ac.bh 32 f) W (by omega) h)
  have hp := Lib.hid (fun W (h : TabT W) => parseU_any (Ac.tw 32 (Ac.bh 32 f)) W h (by omega))
  have hA : Rr.lkOf f l = { f, l, method := Ac.tw 32 f, version := Ac.bh 32 (Ac.bh 32 f), t := (parseTg (Ac.tw 32 (Ac.bh 32 f))).getD ([], []), aims := (parseTg (Ac.tw 32 (Ac.bh 32 f))).isSome } := rfl
  rw [hA]
  generalize (parseTg (Ac.tw 32 (Ac.bh 32 f))).getD ([], []) = t at *
  generalize (parseTg (Ac.tw 32 (Ac.bh 32 f))).isSome = aims at *
  obtain ⟨en, hen⟩ : ∃ en : Int, (if aims = true then (0 : Int) else 210) = en := ⟨_, rfl⟩
  have hae : (en == 0) = aims := by rw [← hen]; cases aims <;> rfl
  simp only [hen] at hp
  clear hA hen
  generalize Ac.tw 32 f = m at *
  generalize Ac.bh 32 f = r at *
  generalize Ac.tw 32 r = tx at *
  generalize Ac.bh 32 r = v at *
  obtain ⟨n1, hn1⟩ : ∃ n1, t.1.length = n1 := ⟨_, rfl⟩
  obtain ⟨n2, hn2⟩ : ∃ n2, t.2.length = n2 := ⟨_, rfl⟩
  simp only [hn1, hn2] at hp
  have hn1' := Lib.hid hn1
  have hn2' := Lib.hid hn2
  have z0' := Lib.hid z0
  have hB1' := Lib.hid hB1
  have hx1 := Lib.hid (hx.below hB1)
  have hx0 := Lib.hid hx
  have hT1 := Lib.hid (hT.below hB1)
  clear hB1 z0 hx hT hq hh l1 l2 l3 l4 hn1 hn2
  go_enter Tryz.func37, Tryz.ntmps37
  go_upto_region 2 with (first
    | (go_at_call 63; (with_reducible refine Calls.mono hck.out ?_); rintro e w2 ⟨rfl, hb2⟩; have d0 := (z0'.out.below hb2 z0'.out.lt).cell 0; have d1 := (z0'.out.below hb2 z0'.out.lt).cell 1; have hb2' := Lib.hid (below_on hB1'.out hb2); have hx2 := Lib.hid (hx1.out.below hb2); have hT2 := Lib.hid (hT1.out.below hb2); clear hb2)
    | (go_at_call 39; (with_reducible refine Calls.mono (hm.out _) ?_); rintro e w8 ⟨rfl, hw8⟩; obtain rfl := hw8.symm))
  go_upto_region 3 with (fail)
  obtain ⟨k, hk⟩ : ∃ k, w2.heap.size = k := ⟨_, rfl⟩
  have k3 := Has.new w2 104 #[.string ⟨f.toArray⟩, .slice A l.length c, .string ⟨#[]⟩, .string ⟨#[]⟩, .slice none 0 0, .slice none 0 0, .bool false]
  have hB3 : Below w2.heap.size w2 (w2.alloc (.cells #[.string ⟨f.toArray⟩, .slice A l.length c, .string ⟨#[]⟩, .string ⟨#[]⟩, .slice none 0 0, .slice none 0 0, .bool false] 104)) := (Below.refl _ _).alloc (Nat.le_refl _) _
  obtain ⟨w3, hw3⟩ : ∃ w3, w2.alloc (.cells #[.string ⟨f.toArray⟩, .slice A l.length c, .string ⟨#[]⟩, .string ⟨#[]⟩, .slice none 0 0, .slice none 0 0, .bool false] 104) = w3 := ⟨_, rfl⟩
  rw [hw3] at k3 hB3
  rw [hk] at k3
  have e0 := k3.cell 0
  have e1 := k3.cell 1
  have hT3 := Lib.hid (hT2.out.below hB3)
  have hx3 := Lib.hid (hx2.out.below hB3)
  have hb3' := Lib.hid (below_on hb2'.out hB3)
  have k3' := Lib.hid k3
  obtain ⟨fl1, hcA⟩ := hc1.out w3 hT3.out.2
  have hcA' := Lib.hid hcA
  clear k3 hB3 hcA
  try rw [hw3]
  try rw [hk]
  go_upto_region 6 with (first
    | (go_at_call 64; (with_reducible refine Calls.mono hcA'.out ?_); rintro e w4 ⟨rfl, hb4⟩; have hT4 := Lib.hid (hT3.out.below hb4); have hb4' := Lib.hid (below_on hb3'.out hb4); have k4' := Lib.hid (k3'.out.below hb4 k3'.out.lt); have hx4 := Lib.hid (hx3.out.below hb4); obtain ⟨fl2, hcB⟩ := hc2.out w4 hT4.out.2; have hcB' := Lib.hid hcB; clear hb4 hcB)
    | (go_at_call 64; (with_reducible refine Calls.mono hcB'.out ?_); rintro e w5 ⟨rfl, hb5⟩; have hT5 := Lib.hid (hT4.out.below hb5); have hb5' := Lib.hid (below_on hb4'.out hb5); have k5' := Lib.hid (k4'.out.below hb5 k4'.out.lt); have hx5 := Lib.hid (hx4.out.below hb5); clear hb5)
    | (go_at_call 54; (with_reducible refine Calls.mono (hp.out _ hT5.out) ?_); rintro e w6 ⟨⟨A1, k1, A2, k2, rfl, ht6, hp6, hfr1, hfr2⟩, hb6⟩; have hfr1' := Lib.hid hfr1; have hfr2' := Lib.hid hfr2; have hkw5 := Lib.hid k5'.out.lt; have hb6' := Lib.hid (below_on hb5'.out hb6); have k6' := Lib.hid (k5'.out.below hb6 k5'.out.lt); have hx6 := Lib.hid (hx5.out.below hb6); have ht6' := Lib.hid ht6; have hp6' := Lib.hid hp6; clear hb6 ht6 hp6 hfr1 hfr2))
  have k7 := Has.new w6 32 #[.slice A1 n1 k1, .slice A2 n2 k2]
  have hB7 : Below w6.heap.size w6 (w6.alloc (.cells #[.slice A1 n1 k1, .slice A2 n2 k2] 32)) := (Below.refl _ _).alloc (Nat.le_refl _) _
  obtain ⟨w7, hw7⟩ : ∃ w7, w6.alloc (.cells #[.slice A1 n1 k1, .slice A2 n2 k2] 32) = w7 := ⟨_, rfl⟩
  rw [hw7] at k7 hB7
  have k67 := k6'.out.below hB7 k6'.out.lt
  obtain ⟨p, hpz⟩ : ∃ p, w6.heap.size = p := ⟨_, rfl⟩
  rw [hpz] at k7
  have hne : p ≠ k := by have := k6'.out.lt; omega
  try rw [hw7]
  try rw [hpz]
  have g0 := k7.cell 0
  have g1 := k7.cell 1
  have q2 := k67.cell 2
  have q3 := k67.cell 3
  have q4 := k67.cell 4
  have q5 := k67.cell 5
  have q6 := k67.cell 6
  have f2 := k67.free 2
  have f3 := k67.free 3
  have f4 := k67.free 4
  have f5 := k67.free 5
  have f6 := k67.free 6
  have k7' := Lib.hid k7
  have k67' := Lib.hid k67
  have hB7' := Lib.hid hB7
  clear k7 k67 hB7 hw7
  go_wp2
  go_region
  go_wp2
  go_ret
  have hk5 := hkw5.out
  have hbf : Below w.heap.size w w7 := below_on hb6'.out hB7'.out
  have hkn : n ≤ k := by have := hb2'.out.size; omega
  obtain ⟨wf, hwf⟩ : ∃ wf, ((((w7.setCell ⟨k, 2, none⟩ (.string ⟨m.toArray⟩)).setCell ⟨k, 3, none⟩ (.string ⟨v.toArray⟩)).setCell ⟨k, 4, none⟩ (.slice A1 n1 k1)).setCell ⟨k, 5, none⟩ (.slice A2 n2 k2)).setCell ⟨k, 6, none⟩ (.bool aims) = wf := ⟨_, rfl⟩
  have hkf := ((((k67'.out.put 2 (.string ⟨m.toArray⟩)).put 3 (.string ⟨v.toArray⟩)).put 4 (.slice A1 n1 k1)).put 5 (.slice A2 n2 k2)).put 6 (.bool aims)
  have hBf : Below w.heap.size w wf := by
    rw [← hwf, hn]
    rw [hn] at hbf
    exact ((((hbf.setCell (p := ⟨k, 2, none⟩) hkn _).setCell (p := ⟨k, 3, none⟩) hkn _).setCell (p := ⟨k, 4, none⟩) hkn _).setCell (p := ⟨k, 5, none⟩) hkn _).setCell (p := ⟨k, 6, none⟩) hkn _
  have htf : Txs wf A1 t.1 := by
    rw [← hwf]
    exact (((((ht6'.out.below hB7'.out).off hfr1'.out hk5 _).off hfr1'.out hk5 _).off hfr1'.out hk5 _).off hfr1'.out hk5 _).off hfr1'.out hk5 _
  have hpf : Prs wf A2 t.2 := by
    rw [← hwf]
    exact (((((hp6'.out.below hB7'.out).off hfr2'.out hk5 _).off hfr2'.out hk5 _).off hfr2'.out hk5 _).off hfr2'.out hk5 _).off hfr2'.out hk5 _
  have hxf : Prs wf A l := hx0.out.below hBf
  try rw [hwf]
  rw [hwf] at hkf
  have h1 := hn1'.out
  have h2 := hn2'.out
  subst h1
  subst h2
  have hz5 := hb5'.out.size
  have hL : LkF wf w.heap.size k { f, l, method := m, version := v, t, aims } := ⟨A, c, A1, k1, A2, k2, by simpa using hkf, hxf, htf, hpf, (fun b o e => by have := hfr1'.out b o e; omega), (fun b o e => by have := hfr2'.out b o e; omega)⟩
  exact ⟨⟨k, rfl, hL.below (Below.refl _ _).drew⟩, hBf.drew⟩
end Go.Proofs.YtbmemkbfignlaaaGreatDoor
