import Derived.Test.YtabgpnieekcdhaaDoorAnM
import Derived.Lib.MinMax
namespace Go.Proofs.YtabgpnieekcdhaaDoor
open Go.RowKit Go.Shelf
attribute [local go_sem] Oper.semAt_some
attribute [local go_sem] wideF_fn wideF_depth wideF_round

/-! ## AnswerStatuses -/
theorem refStatuses_at (w : World) : Calls Tryd.prog 19 #[] w fun e w' => e = .returned (.slice (some ⟨w.heap.size, 0, none⟩) 8 8) ∧ w' = w.alloc (.cells numsA 3) := by
  go_enter Tryd.func19, Tryd.ntmps19
  go_wp2
  go_ret
  exact ⟨rfl, rfl⟩
theorem refReasons_at (w : World) : Calls Tryd.prog 20 #[] w fun e w' => e = .returned (.slice (some ⟨w.heap.size, 0, none⟩) 8 8) ∧ w' = w.alloc (.cells resA 9) := by
  go_enter Tryd.func20, Tryd.ntmps20
  go_wp2
  go_ret
  exact ⟨rfl, rfl⟩
theorem stat_far {x : Nat} (h : 8 ≤ x) : An.stat x = (0, []) := by
  unfold An.stat
  rw [List.getD_eq_getElem?_getD, List.getElem?_eq_none (by simpa [An.stats] using h)]
  rfl
theorem stat_inj {x p : Nat} (hp : p < 8) (h : (An.stat x).1 = (An.stat p).1) : x = p := by
  rcases Nat.lt_or_ge x 8 with hx | hx
  · have : ∀ a : Fin 8, ∀ b : Fin 8, (An.stat a.1).1 = (An.stat b.1).1 → a.1 = b.1 := by decide
    exact this ⟨x, hx⟩ ⟨p, hp⟩ h
  · rw [stat_far hx] at h
    have := (An.stat_val hp).2.2.2.1
    simp only at h
    omega
/-- How it stands: the turn's box, the count's, the calls that are put off. -/
def EsM (w9 : World) (T k : Nat) (t c : Int) (ds : List Nat) (W : World) : Prop := Below w9.heap.size w9 W ∧ Has W T 3 #[.int .i64 t] ∧ Has W k 3 #[.int .i64 c] ∧ ∀ D ∈ ds, NoCalls W D
theorem esM_from {β : Type} (w9 : World) (T k : Nat) (t : Int) (ds : List Nat) (f : β → Int) (B : Nat) (hB : w9.heap.size ≤ B) (hT : T < B) (hk : k < B) (hds : ∀ D ∈ ds, D < B) : OwnFrom B (fun b W => EsM w9 T k t (f b) ds W) :=
  OwnFrom.and (ownFrom_below (Nat.le_refl _) hB) (OwnFrom.and (has_from hT _ (fun _ => #[.int .i64 t])) (OwnFrom.and (has_from hk _ (fun b => #[.int .i64 (f b)])) (fun s X Y row hs hg hr D hD => NoCalls.from (hds D hD) s X Y row (hs D hD) hg hr)))
theorem EsM.count {w9 W : World} {T k : Nat} {t c : Int} {ds : List Nat} (h : EsM w9 T k t c ds W) (hk : w9.heap.size ≤ k) (hTk : T ≠ k) (c' : Int) : EsM w9 T k t c' ds (W.setCell ⟨k, 0, none⟩ (.int .i64 c')) :=
  ⟨h.1.setCell (p := ⟨k, 0, none⟩) hk _, h.2.1.other hTk _, by simpa using h.2.2.1.put 0 (.int .i64 c'), fun D hD => (h.2.2.2 D hD).set h.2.2.1 _⟩
def esCount (m t : Int) : Int := if t = 0 then min 8 (max 1 m) else 8
def EsI (w9 : World) (m : Int) (T k : Nat) (t : Int) (ds : List Nat) (pre : List Nat) (W : World) : Prop :=
  (pre = List.range pre.length ∧ pre.length ≤ 8 ∧ (t = 0 → pre.length = 0 ∨ (pre.length : Int) < m)) ∧ EsM w9 T k t (pre.length : Int) ds W
def EsX (w9 : World) (m : Int) (T k : Nat) (t : Int) (ds : List Nat) (c : Code) (pre : List Nat) (W : World) : Prop :=
  (c = .ret ∧ ¬ (pre = List.range pre.length ∧ pre.length ≤ 8)) ∨ (c = .exit 2 ∧ t = 0 ∧ m ≤ (pre.length : Int) ∧ (pre.length = 1 ∨ (pre.length : Int) - 1 < m) ∧ EsM w9 T k t (pre.length : Int) ds W)
theorem esI_from (w9 : World) (m : Int) (T k : Nat) (t : Int) (ds : List Nat) (B : Nat) (hB : w9.heap.size ≤ B) (hT : T < B) (hk : k < B) (hds : ∀ D ∈ ds, D < B) : OwnFrom B (EsI w9 m T k t ds) := fun b W W' row hs hg hr =>
  ⟨hs.1, esM_from w9 T k t ds (fun b : List Nat => (b.length : Int)) B hB hT hk hds b W W' row hs.2 hg hr⟩
theorem esX_from (w9 : World) (m : Int) (T k : Nat) (t : Int) (ds : List Nat) (B : Nat) (hB : w9.heap.size ≤ B) (hT : T < B) (hk : k < B) (hds : ∀ D ∈ ds, D < B) (c : Code) : OwnFrom B (EsX w9 m T k t ds c) := fun b W W' row hs hg hr => by
  rcases hs with hs | ⟨h1, h2, h3, h4, h5⟩
  · exact .inl hs
  · exact .inr ⟨h1, h2, h3, h4, esM_from w9 T k t ds (fun b : List Nat => (b.length : Int)) B hB hT hk hds b W W' row h5 hg hr⟩
theorem es_all {w9 W : World} {m : Int} {T k : Nat} {t : Int} {ds : List Nat} (h : EsI w9 m T k t ds (List.range 8) W) : EsM w9 T k t (esCount m t) ds W := by
  obtain ⟨⟨_, _, hc⟩, hM⟩ := h
  rw [List.length_range] at hM hc
  have e : esCount m t = ((8 : Nat) : Int) := by
    unfold esCount
    split
    · have := hc (by assumption); omega
    · rfl
  rw [e]
  exact hM
theorem es_left {w9 W : World} {m : Int} {T k : Nat} {t : Int} {ds : List Nat} {c : Code} {pre : List Nat} (hs : ∃ j, j < 8 ∧ pre = List.range (j + 1)) (h : EsX w9 m T k t ds c pre W) : c = .exit 2 ∧ EsM w9 T k t (esCount m t) ds W := by
  obtain ⟨j, hj, rfl⟩ := hs
  rcases h with ⟨_, hn⟩ | ⟨rfl, rfl, h1, h2, hM⟩
  · exact absurd ⟨by rw [List.length_range], by rw [List.length_range]; omega⟩ hn
  · refine ⟨rfl, ?_⟩
    rw [List.length_range] at h1 h2 hM
    have e : esCount m 0 = ((j + 1 : Nat) : Int) := by
      unfold esCount
      rw [if_pos rfl]
      omega
    rw [e]
    exact hM
set_option maxRecDepth 100000 in
set_option maxHeartbeats 8000000 in
theorem lawStatuses (m : Int) (w : World) (hT : TabN w) : Calls Tryd.prog 5 #[.int .i64 m] w (BoolR true w) := by
  unfold BoolR
  have hwk := Lib.hid (fun W (hW : Below w.heap.size w W) => works14_any W (hT.below hW))
  unfold BoolR at hwk
  refine (callsIn_wide (n := 6)).1 ?_
  refine callsIn_of_wp_marks Tryd.func5 rfl trivial ?_ rfl
  refine wpIn_wide.2 ?_
  simp only [Tryd.ntmps5, List.size_toArray, List.length_cons, List.length_nil, Nat.reduceAdd, Nat.reduceSub, Array.replicate_succ, Array.replicate_zero, List.push_toArray, List.append_toArray, List.nil_append, List.cons_append]
  go_upto_region 3 with (first
    | (go_at_call 19; (with_reducible refine Calls.mono (refStatuses_at _) ?_); rintro e w2 ⟨rfl, rfl⟩)
    | (go_at_call 20; (with_reducible refine Calls.mono (refReasons_at _) ?_); rintro e w3 ⟨rfl, rfl⟩)
    | (go_at_call 21; (with_reducible refine Calls.mono (statuses_maker _) ?_); rintro e w5 ⟨rfl, hw5⟩; obtain rfl := hw5.symm))
  obtain ⟨n, hn⟩ : ∃ n, w.heap.size = n := ⟨_, rfl⟩
  have hFF : ∃ w9, ((((((w.alloc (.cells #[.int .i64 m] 3)).alloc (.cells #[.bool false] 4)).alloc (.cells numsA 3)).alloc (.cells resA 9)).alloc (.cells #[.slice (some ⟨w.heap.size + 1 + 1, 0, none⟩) 8 8] 40)).alloc (.cells #[.slice (some ⟨w.heap.size + 1 + 1 + 1, 0, none⟩) 8 8] 42)) = w9 ∧ w9.heap.size = n + 6 ∧ Below n w w9 ∧ Has w9 n 3 #[.int .i64 m] ∧ Has w9 (n + 1) 4 #[.bool false] ∧ Has w9 (n + 2) 3 numsA ∧ Has w9 (n + 3) 9 resA ∧ Has w9 (n + 4) 40 #[.slice (some ⟨n + 2, 0, none⟩) 8 8] ∧ Has w9 (n + 5) 42 #[.slice (some ⟨n + 3, 0, none⟩) 8 8] := by
    refine ⟨_, rfl, by simp [hn], ?_, ?_⟩
    · exact ((((((Below.refl n w).alloc (by omega) _).alloc (by simp; omega) _).alloc (by simp; omega) _).alloc (by simp; omega) _).alloc (by simp; omega) _).alloc (by simp; omega) _
    · refine ⟨?_, ?_, ?_, ?_, ?_, ?_⟩
      · have h := Has.alloc (Has.alloc (Has.alloc (Has.alloc (Has.alloc (Has.new w 3 #[.int .i64 m]) (.cells #[.bool false] 4)) (.cells numsA 3)) (.cells resA 9)) (.cells #[.slice (some ⟨w.heap.size + 1 + 1, 0, none⟩) 8 8] 40)) (.cells #[.slice (some ⟨w.heap.size + 1 + 1 + 1, 0, none⟩) 8 8] 42)
        simp only [World.size_alloc, hn] at h
        simp only [hn]
        exact h
      · have h := Has.alloc (Has.alloc (Has.alloc (Has.alloc (Has.new (w.alloc (.cells #[.int .i64 m] 3)) 4 #[.bool false]) (.cells numsA 3)) (.cells resA 9)) (.cells #[.slice (some ⟨w.heap.size + 1 + 1, 0, none⟩) 8 8] 40)) (.cells #[.slice (some ⟨w.heap.size + 1 + 1 + 1, 0, none⟩) 8 8] 42)
        simp only [World.size_alloc, hn] at h
        simp only [hn]
        exact h
      · have h := Has.alloc (Has.alloc (Has.alloc (Has.new ((w.alloc (.cells #[.int .i64 m] 3)).alloc (.cells #[.bool false] 4)) 3 numsA) (.cells resA 9)) (.cells #[.slice (some ⟨w.heap.size + 1 + 1, 0, none⟩) 8 8] 40)) (.cells #[.slice (some ⟨w.heap.size + 1 + 1 + 1, 0, none⟩) 8 8] 42)
        simp only [World.size_alloc, hn] at h
        simp only [hn]
        exact h
      · have h := Has.alloc (Has.alloc (Has.new (((w.alloc (.cells #[.int .i64 m] 3)).alloc (.cells #[.bool false] 4)).alloc (.cells numsA 3)) 9 resA) (.cells #[.slice (some ⟨w.heap.size + 1 + 1, 0, none⟩) 8 8] 40)) (.cells #[.slice (some ⟨w.heap.size + 1 + 1 + 1, 0, none⟩) 8 8] 42)
        simp only [World.size_alloc, hn] at h
        simp only [hn]
        exact h
      · have h := Has.alloc (Has.new ((((w.alloc (.cells #[.int .i64 m] 3)).alloc (.cells #[.bool false] 4)).alloc (.cells numsA 3)).alloc (.cells resA 9)) 40 #[.slice (some ⟨w.heap.size + 1 + 1, 0, none⟩) 8 8]) (.cells #[.slice (some ⟨w.heap.size + 1 + 1 + 1, 0, none⟩) 8 8] 42)
        simp only [World.size_alloc, hn] at h
        simp only [hn]
        exact h
      · have h := Has.new (((((w.alloc (.cells #[.int .i64 m] 3)).alloc (.cells #[.bool false] 4)).alloc (.cells numsA 3)).alloc (.cells resA 9)).alloc (.cells #[.slice (some ⟨w.heap.size + 1 + 1, 0, none⟩) 8 8] 40)) 42 #[.slice (some ⟨w.heap.size + 1 + 1 + 1, 0, none⟩) 8 8]
        simp only [World.size_alloc, hn] at h
        simp only [hn]
        exact h
  obtain ⟨w9, hw9, hz9, hB9, z0, z1, z2, z3, z4, z5⟩ := hFF
  rw [hw9, hn]
  have hB9' := Lib.hid hB9
  have hF := Lib.hid (fun W (hb : Below w9.heap.size w9 W) => show Has W n 3 #[.int .i64 m] ∧ Has W (n + 1) 4 #[.bool false] ∧ Has W (n + 2) 3 numsA ∧ Has W (n + 3) 9 resA ∧ Has W (n + 4) 40 #[.slice (some ⟨n + 2, 0, none⟩) 8 8] ∧ Has W (n + 5) 42 #[.slice (some ⟨n + 3, 0, none⟩) 8 8] from
    ⟨z0.below hb z0.lt, z1.below hb z1.lt, z2.below hb z2.lt, z3.below hb z3.lt, z4.below hb z4.lt, z5.below hb z5.lt⟩)
  have hT9 := Lib.hid (hT.2.below (hn ▸ hB9 : Below w.heap.size w w9))
  have hnil : ∀ (fn : Fn) (f c : Array Value) (w : World), Sem.run Tryd.prog (binOp BinOp.eql 45 (Value.func fn f c) Value.nilFunc) w = .ok (.bool false) w := fun _ _ _ _ => by kernel_rfl
  have hn' := Lib.hid hn
  have hz9' := Lib.hid hz9
  clear hw9 hB9 z0 z1 z2 z3 z4 z5 hT hn
  go_wp2
  clear hnil
  refine (wpIn_wide (n := 6)).1 ?_
  refine wpIn_loop_rounds 3 ?_
  rw [roundsIn_succ]
  have q6 := (Has.new w9 3 #[.int .i64 0]).alloc (.cells #[.int .i64 0] 3)
  have q7 := Has.new (w9.alloc (.cells #[.int .i64 0] 3)) 3 #[.int .i64 0]
  have hb9 : Below w9.heap.size w9 ((w9.alloc (.cells #[.int .i64 0] 3)).alloc (.cells #[.int .i64 0] 3)) := ((Below.refl _ _).alloc (Nat.le_refl _) _).alloc (by simp) _
  simp only [World.size_alloc, hz9] at q6 q7
  have hM : EsM w9 (n + 6) (n + 7) 0 0 [] ((w9.alloc (.cells #[.int .i64 0] 3)).alloc (.cells #[.int .i64 0] 3)) := ⟨hb9, q6, q7, fun _ h => (List.not_mem_nil h).elim⟩
  have hM := Lib.hid hM
  clear q6 q7 hb9
  gi_wp2
  obtain ⟨w16, hw16⟩ : ∃ w16, (w9.alloc (.cells #[.int .i64 0] 3)).alloc (.cells #[.int .i64 0] 3) = w16 := ⟨_, rfl⟩
  have z16 : w16.heap.size = n + 8 := by rw [← hw16]; simp [hz9'.out]
  rw [hw16] at hM ⊢
  clear hw16
  refine wpIn_range_own 2 (gf := 35) (lb := #[]) rfl (enters_of Tryd.func35 (by kernel_rfl) rfl)
    (stats1_seq w16 (hT9.out.below hM.out.1)) (fun _ _ => trivial) (fun _ _ _ _ _ _ _ _ => trivial) (Below.refl _ _) (fun _ => rfl)
    (EsI w9 m (n + 6) (n + 7) 0 []) (EsX w9 m (n + 6) (n + 7) 0 []) (EsM w9 (n + 6) (n + 7) 0 (esCount m 0) [])
    (esI_from w9 m _ _ _ _ _ (by have := hM.out.1.size; omega) (by omega) (by omega) (fun _ h => (List.not_mem_nil h).elim)) (esX_from w9 m _ _ _ _ _ (by have := hM.out.1.size; omega) (by omega) (by omega) (fun _ h => (List.not_mem_nil h).elim))
    ⟨⟨rfl, Nat.zero_le _, fun _ => .inl rfl⟩, hM.out⟩ (fun xs W hx hi => es_all (hx ▸ hi)) (fun _ _ _ h1 h2 => es_left h1 h2)
    ?_ ?_ ?_ (fun _ _ h => h) ?_
  rotate_left
  · intro l x V K hK
    have hK' := Lib.hid hK
    clear hK
    dsimp only [encSt]
    gi_wp2
    exact hK'.out
  · rintro l pre x V ⟨⟨g1, g2, g3⟩, gM⟩ hlen
    have hgM := Lib.hid gM
    obtain ⟨gB, gT, gk, gd⟩ := gM
    obtain ⟨f0, f1, f2, f3, f4, f5⟩ := hF.out V gB
    have e0 := f0.cell 0
    have e1 := f1.cell 0
    have u1 := f1.free 0
    have e4 := f4.cell 0
    have e5 := f5.cell 0
    have eT := gT.cell 0
    have ek := gk.cell 0
    have uk := gk.free 0
    have hkw : w9.heap.size ≤ n + 7 := by have := hz9'.out; omega
    have g1' := Lib.hid g1
    have g3' := Lib.hid g3
    obtain ⟨p, hp⟩ : ∃ p, pre.length = p := ⟨_, rfl⟩
    have hl1 : Hid ((pre ++ [x]).length = p + 1) := Lib.hid (by simp [hp])
    rw [hp] at g1' g2 g3' hgM ek hlen gk
    have hp' := Lib.hid hp
    have hlI : (p : Int) < 8 := by omega
    have c2 : V.cell? ⟨n + 2, p, none⟩ = some (.int .i64 ((An.stat p).1 : Int)) := (f2.cell p).trans (numsA_at hlen)
    have c3 : V.cell? ⟨n + 3, p, none⟩ = some (.string ⟨(An.stat p).2.toArray⟩) := (f3.cell p).trans (resA_at hlen)
    have f1' := Lib.hid f1
    clear f0 f1 f2 f3 f4 f5 gT gk gd gB g1 g3 hp
    by_cases hxp : x = p
    · subst hxp
      have hsn : Hid (pre ++ [x] = List.range (pre ++ [x]).length) := Lib.hid (by rw [hl1.out, ← range_snocR, ← g1'.out])
      generalize (An.stat x).1 = sn at *
      generalize (An.stat x).2 = sr at *
      have hcnt : Hid (((pre ++ [x]).length : Int) = (x : Int) + 1) := Lib.hid (by rw [hl1.out]; rfl)
      gi_wp2
      all_goals (
        have hM2 : EsM w9 (n + 6) (n + 7) 0 (((pre ++ [x]).length : Nat) : Int) [] (V.setCell ⟨n + 7, 0, none⟩ (.int .i64 ((x : Int) + 1))) := by
          rw [hcnt.out]
          exact hgM.out.count hkw (by omega) _
        first
          | (rename_i h1 h2
             refine ⟨(KeepsOthers.setCell _ _ _).from _, .inr ⟨rfl, rfl, by rw [hcnt.out]; exact h2, ?_, hM2⟩⟩
             have hg3 : x = 0 ∨ (x : Int) < m := by simpa using g3'.out
             rw [hl1.out]
             omega)
          | (refine ⟨(KeepsOthers.setCell _ _ _).from _, trivial, ⟨hsn.out, by rw [hl1.out]; omega, fun _ => .inr ?_⟩, hM2⟩
             rw [hcnt.out]
             omega)
          | (trace_state; sorry))
    · have hne : ¬ ((An.stat x).1 : Int) = ((An.stat p).1 : Int) := fun h => hxp (stat_inj hlen (by omega))
      have hbad : Hid (¬ (pre ++ [x] = List.range (pre ++ [x]).length ∧ (pre ++ [x]).length ≤ 8)) := Lib.hid (fun h => by
        have h1 := h.1
        rw [hl1.out, ← range_snocR] at h1
        have h2 := (List.append_inj' h1 rfl).2
        exact hxp (by simpa using h2))
      generalize (An.stat x).1 = sx at *
      generalize (An.stat x).2 = rx at *
      generalize (An.stat p).1 = sn at *
      generalize (An.stat p).2 = sr at *
      gi_wp2
      all_goals first
        | exact ⟨(KeepsOthers.setCell _ _ _).from _, .inl ⟨rfl, hbad.out⟩⟩
        | (trace_state; sorry)
  · rintro D W hD hM1 hDn
    obtain ⟨gB, gT, gk, -⟩ := hM1
    obtain ⟨f0, f1, f2, f3, f4, f5⟩ := hF.out W gB
    have e0 := f0.cell 0
    have e4 := f4.cell 0
    have eT := gT.cell 0
    have ek := gk.cell 0
    have hcn : esCount m 0 = min 8 (max 1 m) := rfl
    rw [hcn] at ek
    have hDn' := Lib.hid hDn
    have hDW := hDn.lt
    have gB' := Lib.hid gB
    clear f0 f1 f2 f3 f4 f5 gT gk hDn hM gB
    gi_wp2
    rw [roundsIn_succ]
    have q6 := (Has.new W 3 #[.int .i64 1]).alloc (.cells #[.int .i64 0] 3)
    have q7 := Has.new (W.alloc (.cells #[.int .i64 1] 3)) 3 #[.int .i64 0]
    have hb7 : Below w9.heap.size w9 ((W.alloc (.cells #[.int .i64 1] 3)).alloc (.cells #[.int .i64 0] 3)) := (gB'.out.alloc gB'.out.size _).alloc (by have := gB'.out.size; simp; omega) _
    have hM : EsM w9 W.heap.size (W.heap.size + 1) 1 0 [D] ((W.alloc (.cells #[.int .i64 1] 3)).alloc (.cells #[.int .i64 0] 3)) := ⟨hb7, q6, by simpa using q7, fun D' h => by rw [List.mem_singleton.1 h]; exact (hDn'.out.alloc _).alloc _⟩
    have hM := Lib.hid hM
    have hW9 : w9.heap.size ≤ W.heap.size := gB'.out.size
    clear q6 q7 hb7 e0 e4 eT ek
    gi_wp2
    obtain ⟨w26, hw26⟩ : ∃ w26, (W.alloc (.cells #[.int .i64 1] 3)).alloc (.cells #[.int .i64 0] 3) = w26 := ⟨_, rfl⟩
    have z26 : w26.heap.size = W.heap.size + 2 := by rw [← hw26]; simp
    rw [hw26] at hM ⊢
    clear hw26
    refine wpIn_range_own 2 (gf := 35) (lb := #[]) rfl (enters_of Tryd.func35 (by kernel_rfl) rfl)
      (stats1_seq w26 (hT9.out.below hM.out.1)) (fun _ _ => trivial) (fun _ _ _ _ _ _ _ _ => trivial) (Below.refl _ _) (fun _ => rfl)
      (EsI w9 m W.heap.size (W.heap.size + 1) 1 [D]) (EsX w9 m W.heap.size (W.heap.size + 1) 1 [D]) (EsM w9 W.heap.size (W.heap.size + 1) 1 (esCount m 1) [D])
      (esI_from w9 m _ _ _ _ _ (by have := hM.out.1.size; omega) (by omega) (by omega) (fun D' h => by rw [List.mem_singleton.1 h]; omega)) (esX_from w9 m _ _ _ _ _ (by have := hM.out.1.size; omega) (by omega) (by omega) (fun D' h => by rw [List.mem_singleton.1 h]; omega))
      ⟨⟨rfl, Nat.zero_le _, fun _ => .inl rfl⟩, hM.out⟩ (fun xs W hx hi => es_all (hx ▸ hi)) (fun _ _ _ h1 h2 => es_left h1 h2)
      ?_ ?_ ?_ (fun _ _ h => h) ?_
    rotate_left
    · intro l x V K hK
      have hK' := Lib.hid hK
      clear hK
      dsimp only [encSt]
      gi_wp2
      exact hK'.out
    · rintro l pre x V ⟨⟨g1, g2, g3⟩, gM⟩ hlen
      have hgM := Lib.hid gM
      obtain ⟨gB, gT, gk, gd⟩ := gM
      obtain ⟨f0, f1, f2, f3, f4, f5⟩ := hF.out V gB
      have e0 := f0.cell 0
      have e1 := f1.cell 0
      have u1 := f1.free 0
      have e4 := f4.cell 0
      have e5 := f5.cell 0
      have eT := gT.cell 0
      have ek := gk.cell 0
      have uk := gk.free 0
      have hkw : w9.heap.size ≤ W.heap.size + 1 := by have := hz9'.out; omega
      have g1' := Lib.hid g1
      have g3' := Lib.hid g3
      obtain ⟨p, hp⟩ : ∃ p, pre.length = p := ⟨_, rfl⟩
      have hl1 : Hid ((pre ++ [x]).length = p + 1) := Lib.hid (by simp [hp])
      rw [hp] at g1' g2 g3' hgM ek hlen gk
      have hp' := Lib.hid hp
      have hlI : (p : Int) < 8 := by omega
      have c2 : V.cell? ⟨n + 2, p, none⟩ = some (.int .i64 ((An.stat p).1 : Int)) := (f2.cell p).trans (numsA_at hlen)
      have c3 : V.cell? ⟨n + 3, p, none⟩ = some (.string ⟨(An.stat p).2.toArray⟩) := (f3.cell p).trans (resA_at hlen)
      have f1' := Lib.hid f1
      clear f0 f1 f2 f3 f4 f5 gT gk gd gB g1 g3 hp
      by_cases hxp : x = p
      · subst hxp
        have hsn : Hid (pre ++ [x] = List.range (pre ++ [x]).length) := Lib.hid (by rw [hl1.out, ← range_snocR, ← g1'.out])
        generalize (An.stat x).1 = sn at *
        generalize (An.stat x).2 = sr at *
        have hcnt : Hid (((pre ++ [x]).length : Int) = (x : Int) + 1) := Lib.hid (by rw [hl1.out]; rfl)
        gi_wp2
        all_goals (
          have hM2 : EsM w9 (W.heap.size) (W.heap.size + 1) 1 (((pre ++ [x]).length : Nat) : Int) [D] (V.setCell ⟨W.heap.size + 1, 0, none⟩ (.int .i64 ((x : Int) + 1))) := by
            rw [hcnt.out]
            exact hgM.out.count hkw (by omega) _
          first
            | (rename_i h1 h2
               refine ⟨(KeepsOthers.setCell _ _ _).from _, .inr ⟨rfl, rfl, by rw [hcnt.out]; exact h2, ?_, hM2⟩⟩
               have hg3 : x = 0 ∨ (x : Int) < m := by simpa using g3'.out
               rw [hl1.out]
               omega)
            | (refine ⟨(KeepsOthers.setCell _ _ _).from _, trivial, ⟨hsn.out, by rw [hl1.out]; omega, fun _ => .inr ?_⟩, hM2⟩
               rw [hcnt.out]
               omega)
            | (trace_state; sorry))
      · have hne : ¬ ((An.stat x).1 : Int) = ((An.stat p).1 : Int) := fun h => hxp (stat_inj hlen (by omega))
        have hbad : Hid (¬ (pre ++ [x] = List.range (pre ++ [x]).length ∧ (pre ++ [x]).length ≤ 8)) := Lib.hid (fun h => by
          have h1 := h.1
          rw [hl1.out, ← range_snocR] at h1
          have h2 := (List.append_inj' h1 rfl).2
          exact hxp (by simpa using h2))
        generalize (An.stat x).1 = sx at *
        generalize (An.stat x).2 = rx at *
        generalize (An.stat p).1 = sn at *
        generalize (An.stat p).2 = sr at *
        gi_wp2
        all_goals first
          | exact ⟨(KeepsOthers.setCell _ _ _).from _, .inl ⟨rfl, hbad.out⟩⟩
          | (trace_state; sorry)
    · rintro D2 W2 hD2 hM2 hDn2
      obtain ⟨gB, gT, gk, gd⟩ := hM2
      obtain ⟨f0, f1, f2, f3, f4, f5⟩ := hF.out W2 gB
      have e0 := f0.cell 0
      have e4 := f4.cell 0
      have eT := gT.cell 0
      have ek := gk.cell 0
      have hcn2 : esCount m 1 = 8 := rfl
      rw [hcn2] at ek
      have hDn2' := Lib.hid hDn2
      have hDW2 := hDn2.lt
      have hd1 := Lib.hid (gd D List.mem_cons_self)
      have hWW : W.heap.size + 2 ≤ D2 := by omega
      have gB2 := Lib.hid gB
      have f1' := Lib.hid f1
      clear f0 f1 f2 f3 f4 f5 gT gk gd hDn2 hM gB
      gi_wp2
      rw [roundsIn_succ]
      have q6 := Has.new W2 3 #[.int .i64 2]
      have e7 := q6.cell 0
      have hB27 := Lib.hid (gB2.out.alloc gB2.out.size (.cells #[.int .i64 2] 3))
      have hBw : Below w.heap.size w (W2.alloc (.cells #[.int .i64 2] 3)) := by rw [hn'.out]; exact hB9'.out.trans (hB27.out.mono (by have := hz9'.out; omega))
      have hwk2 := Lib.hid (hwk.out _ hBw)
      have k27 := Lib.hid (f1'.out.alloc (.cells #[.int .i64 2] 3))
      have hBw' := Lib.hid hBw
      clear q6 e0 e4 eT ek hBw
      gi_wp2_with fail
      have hs2 : W2.heap.size + 1 = (W2.alloc (.cells #[.int .i64 2] 3)).heap.size := by simp
      obtain ⟨w28, hw28⟩ : ∃ w28, W2.alloc (.cells #[.int .i64 2] 3) = w28 := ⟨_, rfl⟩
      have kd2 : NoCalls w28 D2 := by rw [← hw28]; exact hDn2'.out.alloc _
      have kd1 : NoCalls w28 D := by rw [← hw28]; exact hd1.out.alloc _
      rw [hw28] at hwk2 k27 hBw' hs2 ⊢
      have hkd2 := Lib.hid kd2
      have hkd1 := Lib.hid kd1
      clear e7 hw28 kd2 kd1
      go_wp2_with (go_at_call 7; (with_reducible refine Calls.mono hwk2.out ?_); rintro e w29 ⟨rfl, hb29⟩; have k9 := k27.out.below hb29 k27.out.lt; have e9 := k9.cell 0; have f9 := k9.free 0; have k9' := Lib.hid k9; have hb29' := Lib.hid hb29; clear k9 hb29)
      have hl1 : D < w28.heap.size := hkd1.out.lt
      have hl2 : D2 < w28.heap.size := hkd2.out.lt
      have m2 := Lib.hid ((hkd2.out.below hb29'.out hl2).set (i := 0) k9'.out (.bool true))
      have m1 := Lib.hid ((hkd1.out.below hb29'.out hl1).set (i := 0) k9'.out (.bool true))
      have g10 : Has (w29.setCell ⟨n + 1, 0, none⟩ (.bool true)) (n + 1) 4 #[.bool true] := by simpa using k9'.out.put 0 (.bool true)
      have hB30 : Below n w (w29.setCell ⟨n + 1, 0, none⟩ (.bool true)) := by
        have h := below_on hBw'.out hb29'.out
        rw [hn'.out] at h
        exact h.setCell (p := ⟨n + 1, 0, none⟩) (by show n ≤ n + 1; omega) _
      obtain ⟨w30, hw30⟩ : ∃ w30, w29.setCell ⟨n + 1, 0, none⟩ (.bool true) = w30 := ⟨_, rfl⟩
      rw [hw30] at m2 m1 g10 hB30 ⊢
      have hne : D ≠ D2 := by omega
      have m1' := m1.out.put (.deferred none) hne
      refine ⟨by simp, .inl ⟨_, _, rfl, run_takeDeferred m2.out, ⟨by simp, .inl ⟨_, _, rfl, run_takeDeferred m1', ?_⟩⟩⟩⟩
      have g11 := ((g10.put_obj (.deferred none) (l := D2) (by omega)).put_obj (.deferred none) (l := D) (by omega)).cell 0
      refine ⟨.bool true, ?_, rfl, ?_⟩
      · simp [results, Tryd.results5, go_sem, g11]
      · rw [hn'.out]
        exact (hB30.trans (belowK_b (w := w) (Nat.le_of_eq hn'.out.symm) _ D2 _ _ (by have := hn'.out; have := hz9'.out; omega) m2.out rfl rfl)).trans (belowK_b (w := w) (Nat.le_of_eq hn'.out.symm) _ D _ _ (by have := hn'.out; have := hz9'.out; omega) m1' rfl rfl)
end Go.Proofs.YtabgpnieekcdhaaDoor
