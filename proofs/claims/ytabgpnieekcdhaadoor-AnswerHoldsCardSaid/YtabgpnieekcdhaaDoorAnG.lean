import Derived.Test.YtabgpnieekcdhaaDoorAnE
import Derived.ScopeJumps
import Derived.Test.YtabgpnieekcdhaaDoorS
namespace Go.Proofs.YtabgpnieekcdhaaDoor
open Go.RowKit Go.Shelf
attribute [local go_sem] Oper.semAt_some
attribute [local go_sem] wideF_fn wideF_depth wideF_round

/-! ## A status's reason -/
/-- What stands while none was sought. -/
def SoI (s : Int) (n bS : Nat) (w : World) (pre : List Nat) (W : World) : Prop :=
  (∀ y ∈ pre, (((An.stat y).1 : Int) == s) = false) ∧ Has W n 47 #[.func (.func 26) #[] #[.pointer (some ⟨bS, 0, none⟩)]] ∧ Has W (n + 1) 9 #[.string ⟨#[]⟩] ∧ Has W (n + 2) 4 #[.bool false] ∧ Below n w W
/-- .. and where one was. -/
def SoX (s : Int) (n : Nat) (w : World) (id : Nat) (c : Code) (pre : List Nat) (W : World) : Prop :=
  c = .exit id ∧ (∃ p x, pre = p ++ [x] ∧ (((An.stat x).1 : Int) == s) = true ∧ Has W (n + 1) 9 #[.string ⟨(An.stat x).2.toArray⟩] ∧ Has W (n + 2) 4 #[.bool true]) ∧ Below n w W
def SoM (o : Option (List UInt8)) (n : Nat) (w W : World) : Prop := Has W (n + 1) 9 #[.string ⟨(o.getD []).toArray⟩] ∧ Has W (n + 2) 4 #[.bool o.isSome] ∧ Below n w W
theorem so_left {s : Int} {n id : Nat} {w W : World} {c : Code} {pre : List Nat} (hs : ∃ j, j < 8 ∧ pre = List.range (j + 1)) (h : SoX s n w id c pre W) : c = .exit id ∧ SoM (An.reason s) n w W := by
  obtain ⟨hc, ⟨p, x, rfl, h2, h3, h4⟩, h5⟩ := h
  obtain ⟨j, hj, e⟩ := hs
  rw [← range_snocR] at e
  obtain ⟨rfl, e2⟩ := List.append_inj' e rfl
  obtain rfl : x = j := by simpa using e2
  have hx : ((An.stat x).1 : Int) = s := beq_iff_eq.1 h2
  have hr : An.reason s = some (An.stat x).2 := by rw [← hx]; exact An.reason_at hj
  refine ⟨hc, ?_, ?_, h5⟩
  · rw [hr]; exact h3
  · rw [hr]; exact h4
theorem so_all {s : Int} {n bS : Nat} {w W : World} (h : SoI s n bS w (List.range 8) W) : SoM (An.reason s) n w W := by
  obtain ⟨h1, _, h3, h4, h5⟩ := h
  have hr : An.reason s = none := An.reason_none fun j hj e => by
    have := h1 j (List.mem_range.2 hj)
    rw [beq_eq_false_iff_ne] at this
    exact this e
  unfold SoM
  rw [hr]
  exact ⟨h3, h4, h5⟩
theorem soI_from (s : Int) (n bS : Nat) (w : World) (B : Nat) (hn : n ≤ w.heap.size) (hB : n + 2 < B) : OwnFrom B (SoI s n bS w) :=
  OwnFrom.and (ownFrom_pure _ _) (OwnFrom.and (has_from (by omega) _ _) (OwnFrom.and (has_from (by omega) _ _) (OwnFrom.and (has_from (by omega) _ _) (ownFrom_below hn (by omega)))))
theorem soX_from (s : Int) (n id : Nat) (w : World) (B : Nat) (hn : n ≤ w.heap.size) (hB : n + 2 < B) (c : Code) : OwnFrom B (SoX s n w id c) := by
  intro pre X Y row ⟨hc, ⟨p, x, e, h2, h3, h4⟩, h5⟩ hg hr
  refine ⟨hc, ⟨p, x, e, h2, ?_, ?_⟩, ?_⟩
  · exact has_from (β := Unit) (B := B) (by omega) _ (fun _ => #[.string ⟨(An.stat x).2.toArray⟩]) () X Y row h3 hg hr
  · exact has_from (β := Unit) (B := B) (by omega) _ (fun _ => #[.bool true]) () X Y row h4 hg hr
  · exact ownFrom_below (β := Unit) hn (by omega) () X Y row h5 hg hr
set_option maxRecDepth 100000 in
set_option maxHeartbeats 8000000 in
theorem sought_any (s : Int) (bS : Nat) (w : World) (hT : TabS w) (hb : Has w bS 3 #[.int .i64 s]) :
    Calls Tryd.prog 25 #[.func (.func 26) #[] #[.pointer (some ⟨bS, 0, none⟩)], .func (.func 35) #[] #[]] w fun e w' => e = .returned (.tuple #[.string ⟨((An.reason s).getD []).toArray⟩, .bool (An.reason s).isSome]) ∧ Below w.heap.size w w' := by
  obtain ⟨n, hn⟩ : ∃ n, w.heap.size = n := ⟨_, rfl⟩
  obtain ⟨w1, h1⟩ : ∃ w1, w.alloc (.cells #[.func (.func 26) #[] #[.pointer (some ⟨bS, 0, none⟩)]] 47) = w1 := ⟨_, rfl⟩
  have z0 : Has w1 n 47 #[.func (.func 26) #[] #[.pointer (some ⟨bS, 0, none⟩)]] := by rw [← h1, ← hn]; exact Has.new _ _ _
  have hz1 : w1.heap.size = n + 1 := by rw [← h1, ← hn]; simp
  have hB1 : Below n w w1 := by rw [← h1]; exact (Below.refl _ _).alloc (by omega) _
  obtain ⟨w2, h2⟩ : ∃ w2, w1.alloc (.cells #[.string ⟨#[]⟩] 9) = w2 := ⟨_, rfl⟩
  have z1 : Has w2 (n + 1) 9 #[.string ⟨#[]⟩] := by rw [← h2, ← hz1]; exact Has.new _ _ _
  have hz2 : w2.heap.size = n + 2 := by rw [← h2, World.size_alloc, hz1]
  have hB2 : Below n w w2 := by rw [← h2]; exact hB1.alloc (by omega) _
  obtain ⟨w3, h3⟩ : ∃ w3, w2.alloc (.cells #[.bool false] 4) = w3 := ⟨_, rfl⟩
  have z2 : Has w3 (n + 2) 4 #[.bool false] := by rw [← h3, ← hz2]; exact Has.new _ _ _
  have hz3 : w3.heap.size = n + 3 := by rw [← h3, World.size_alloc, hz2]
  have hB3 : Below n w w3 := by rw [← h3]; exact hB2.alloc (by omega) _
  have y0 : Has w3 n 47 #[.func (.func 26) #[] #[.pointer (some ⟨bS, 0, none⟩)]] := by rw [← h3, ← h2]; exact (z0.alloc _).alloc _
  have y1 : Has w3 (n + 1) 9 #[.string ⟨#[]⟩] := by rw [← h3]; exact z1.alloc _
  have hseq := Lib.hid (stats1_seq w3 (hT.below (hn ▸ hB3)))
  have k0 := Lib.hid (show SoI s n bS w [] w3 from ⟨fun _ h => (List.not_mem_nil h).elim, y0, y1, z2, hB3⟩)
  have hb' := Lib.hid hb
  have hbn : bS < n := by rw [← hn]; exact hb.lt
  clear z0 z1 z2 hB1 hB2 hB3 y0 y1 hT hb
  refine (callsIn_wide (n := 6)).1 ?_
  refine callsIn_of_wp_marks Tryd.func25 rfl trivial ?_ rfl
  refine wpIn_wide.2 ?_
  simp only [Tryd.ntmps25, List.size_toArray, List.length_cons, List.length_nil, Nat.reduceAdd, Nat.reduceSub, Array.replicate_succ, Array.replicate_zero, List.push_toArray, List.append_toArray, List.nil_append, List.cons_append]
  go_wp2
  go_step3
  go_wp2
  go_step3
  go_wp2
  refine (wpIn_wide (n := 6)).1 ?_
  refine wpIn_range_own 0 (gf := 35) (lb := #[]) rfl (enters_of Tryd.func35 (by kernel_rfl) rfl)
    hseq.out (fun _ _ => trivial) (fun _ _ _ _ _ _ _ _ => trivial) (Below.refl _ _) (fun _ => rfl)
    (SoI s n bS w) (SoX s n w 0) (SoM (An.reason s) n w)
    (soI_from s n bS w _ (by omega) (by omega)) (soX_from s n 0 w _ (by omega) (by omega))
    k0.out (fun xs W hx hi => so_all (hx ▸ hi)) (fun _ _ _ h1 h2 => so_left h1 h2)
    ?a1 ?assign ?body (fun _ _ h => h) ?rest
  case assign =>
    intro l x V K hK
    have hK' := Lib.hid hK
    clear hK
    dsimp only [encSt]
    gi_wp2
    exact hK'.out
  case body =>
    rintro l pre x V ⟨g1, g2, g3, g4, g5⟩ hlen
    have y2 := g2.cell 0
    have e3 := g3.cell 0
    have f3 := g3.free 0
    have e4 := g4.cell 0
    have f4 := g4.free 0
    have hc := Lib.hid (fun m => CallsIn.inRound l (callsIn_wide (n := m).2 (reason1_any s ((An.stat x).1 : Int) bS V (hb'.out.below g5 hbn))))
    have g1' := Lib.hid g1
    have g2' := Lib.hid g2
    have g3' := Lib.hid g3
    have g4' := Lib.hid g4
    have g5' := Lib.hid g5
    clear g1 g2 g3 g4 g5
    cases hg : (((An.stat x).1 : Int) == s) with
    | true =>
      rw [hg] at hc
      have hg' := Lib.hid hg
      clear hg
      gi_wp2_with (gi_at_call 26; (with_reducible refine CallsIn.mono (hc.out _) ?_); rintro e w5 ⟨rfl, hw5⟩; obtain rfl := hw5.symm)
      refine ⟨((KeepsOthers.setCell _ _ _).trans (KeepsOthers.setCell _ _ _)).from _, rfl, ⟨pre, x, rfl, hg'.out, ?_, ?_⟩, (g5'.out.setCell (p := ⟨n + 1, 0, none⟩) (by show n ≤ n + 1; omega) _).setCell (p := ⟨n + 2, 0, none⟩) (by show n ≤ n + 2; omega) _⟩
      · have := (g3'.out.put 0 (.string ⟨(An.stat x).2.toArray⟩)).other (j := n + 2) (i := 0) (by omega) (.bool true)
        simpa using this
      · have := (g4'.out.other (j := n + 1) (i := 0) (by omega) (.string ⟨(An.stat x).2.toArray⟩)).put 0 (.bool true)
        simpa using this
    | false =>
      rw [hg] at hc
      have hg' := Lib.hid hg
      clear hg
      gi_wp2_with (gi_at_call 26; (with_reducible refine CallsIn.mono (hc.out _) ?_); rintro e w5 ⟨rfl, hw5⟩; obtain rfl := hw5.symm)
      refine ⟨KeepsFrom.refl _ _, trivial, ?_, g2'.out, g3'.out, g4'.out, g5'.out⟩
      intro y hy
      rcases List.mem_append.1 hy with h | h
      · exact g1'.out y h
      · rw [List.mem_singleton.1 h]; exact hg'.out
  case rest =>
    intro D V hD hM hk
    have hk' := Lib.hid hk
    obtain ⟨m1, m2, m3⟩ := hM
    have m1' := Lib.hid m1
    have m2' := Lib.hid m2
    have m3' := Lib.hid m3
    have y1 := m1.cell 0
    have y2 := m2.cell 0
    have f1 := m1.free 0
    have f2 := m2.free 0
    clear hk m1 m2 m3
    go_wp2
    go_region
    have m2a := m2'.out.other (j := n + 1) (i := 0) (by omega) (.string ⟨((An.reason s).getD []).toArray⟩)
    have ka := hk'.out.set (i := 0) m1'.out (.string ⟨((An.reason s).getD []).toArray⟩)
    have kb : NoCalls ((V.setCell ⟨n + 1, 0, none⟩ (.string ⟨((An.reason s).getD []).toArray⟩)).setCell ⟨n + 2, 0, none⟩ (.bool (An.reason s).isSome)).drew D := ka.set (i := 0) m2a (.bool (An.reason s).isSome)
    have q1 : Has ((V.setCell ⟨n + 1, 0, none⟩ (.string ⟨((An.reason s).getD []).toArray⟩)).setCell ⟨n + 2, 0, none⟩ (.bool (An.reason s).isSome)).drew (n + 1) 9 #[.string ⟨((An.reason s).getD []).toArray⟩] := by
      have := (m1'.out.put 0 (.string ⟨((An.reason s).getD []).toArray⟩)).other (j := n + 2) (i := 0) (by omega) (.bool (An.reason s).isSome)
      simpa using this.drew
    have q2 : Has ((V.setCell ⟨n + 1, 0, none⟩ (.string ⟨((An.reason s).getD []).toArray⟩)).setCell ⟨n + 2, 0, none⟩ (.bool (An.reason s).isSome)).drew (n + 2) 4 #[.bool (An.reason s).isSome] := by
      have := m2a.put 0 (.bool (An.reason s).isSome)
      simpa using this.drew
    have hB : Below n w ((V.setCell ⟨n + 1, 0, none⟩ (.string ⟨((An.reason s).getD []).toArray⟩)).setCell ⟨n + 2, 0, none⟩ (.bool (An.reason s).isSome)).drew := ((m3'.out.setCell (p := ⟨n + 1, 0, none⟩) (by show n ≤ n + 1; omega) _).setCell (p := ⟨n + 2, 0, none⟩) (by show n ≤ n + 2; omega) _).drew
    obtain ⟨W9, hW9⟩ : ∃ W9, ((V.setCell ⟨n + 1, 0, none⟩ (.string ⟨((An.reason s).getD []).toArray⟩)).setCell ⟨n + 2, 0, none⟩ (.bool (An.reason s).isSome)).drew = W9 := ⟨_, rfl⟩
    rw [hW9] at kb q1 q2 hB ⊢
    have hWs : D < W9.heap.size := kb.lt
    have c1 := q1.cell 0
    have c2 := q2.cell 0
    have hW : n ≤ D := by have := hz3; omega
    clear y1 y2 f1 f2 hW9 m2a ka
    go_wp2
    rw [Exit.noGoto_ret]
    refine ⟨by simp, .inl ⟨_, _, rfl, run_takeDeferred kb, ?_⟩⟩
    have e1 := (q1.put_obj (.deferred none) (l := D) (by omega)).cell 0
    have e2 := (q2.put_obj (.deferred none) (l := D) (by omega)).cell 0
    trace_state
    refine ⟨.tuple #[.string ⟨((An.reason s).getD []).toArray⟩, .bool (An.reason s).isSome], ?_, rfl, ?_⟩
    · simp at e1 e2
      simp [results, Tryd.results25, go_sem, e1, e2]
    · rw [hn]
      exact hB.trans (belowK_b (w := w) (Nat.le_of_eq hn.symm) W9 D _ _ (by omega) kb rfl rfl)
theorem reason_any (s : Int) (w : World) (hT : TabS w) :
    Calls Tryd.prog 8 #[.int .i64 s] w fun e w' => e = .returned (match An.reason s with | some r => .tuple #[.string ⟨r.toArray⟩, .int .i64 0] | none => .tuple #[.string ⟨#[]⟩, .int .i64 2]) ∧ Below w.heap.size w w' := by
  obtain ⟨n, hn⟩ : ∃ n, w.heap.size = n := ⟨_, rfl⟩
  obtain ⟨w1, h1⟩ : ∃ w1, w.alloc (.cells #[.int .i64 s] 3) = w1 := ⟨_, rfl⟩
  have z0 : Has w1 n 3 #[.int .i64 s] := by rw [← h1, ← hn]; exact Has.new _ _ _
  have hB1 : Below w.heap.size w w1 := by rw [← h1]; exact (Below.refl _ _).alloc (Nat.le_refl _) _
  have hs := Lib.hid (sought_any s n w1 (hT.below hB1) z0)
  have hm := Lib.hid (statuses_maker w1)
  have hB1' := Lib.hid hB1
  have hmf : ∀ (fn : Fn) (first cap : Array Value) (w : World), (Instr.makeFunc fn first cap).run Tryd.prog w = .ok (.func fn first cap) w := fun _ _ _ _ => rfl
  clear z0 hB1 hT
  cases hr : An.reason s with
  | none =>
    rw [hr] at hs
    simp only [Option.getD_none, Option.isSome_none] at hs
    clear hr
    go_enter Tryd.func8, Tryd.ntmps8
    go_wp2
    refine wp_scope_on 0 rfl ?_
    go_wp2_with (first
      | (go_at_call 21; (with_reducible refine Calls.mono hm.out ?_); rintro e w5 ⟨rfl, hw5⟩; obtain rfl := hw5.symm)
      | (go_at_call 25; (with_reducible refine Calls.mono hs.out ?_); rintro e w6 ⟨rfl, hb6⟩; have hb6' := Lib.hid hb6; clear hb6))
    go_step3
    refine ⟨rfl, ?_⟩
    go_wp2
    rw [Exit.noGoto_ret]
    go_ret2
    exact ⟨rfl, below_on hB1'.out hb6'.out⟩
  | some r =>
    rw [hr] at hs
    simp only [Option.getD_some, Option.isSome_some] at hs
    clear hr
    go_enter Tryd.func8, Tryd.ntmps8
    go_wp2
    refine wp_scope_on 0 rfl ?_
    go_wp2_with (first
      | (go_at_call 21; (with_reducible refine Calls.mono hm.out ?_); rintro e w5 ⟨rfl, hw5⟩; obtain rfl := hw5.symm)
      | (go_at_call 25; (with_reducible refine Calls.mono hs.out ?_); rintro e w6 ⟨rfl, hb6⟩; have hb6' := Lib.hid hb6; clear hb6))
    rw [jump_ret]
    go_ret2
    exact ⟨rfl, below_on hB1'.out hb6'.out⟩
end Go.Proofs.YtabgpnieekcdhaaDoor
