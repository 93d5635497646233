import Derived.Test.YtcogdfgmmpfkkaaGreatDoorPk33
namespace Go.Proofs.YtcogdfgmmpfkkaaGreatDoor
open Go.RowKit Go.Shelf
attribute [local go_sem] Oper.semAt_some
attribute [local go_sem] wideF_fn wideF_depth wideF_round

/-! ## Get -/
/-- What stands while no pair of the key came. -/
def GtI (qs : List PairL) (key : List UInt8) (n : Nat) (w : World) (pre : List Nat) (W : World) : Prop :=
  (∀ y ∈ pre, (qs.getD y ([], [])).1 ≠ key) ∧ Has W (n + 1) 9 #[.string ⟨key.toArray⟩] ∧ Has W (n + 1 + 1) 9 #[.string ⟨#[]⟩] ∧ Has W (n + 1 + 1 + 1) 4 #[.bool false] ∧ Below n w W
/-- .. and where one came. -/
def GtX (qs : List PairL) (key : List UInt8) (n : Nat) (w : World) (id : Nat) (c : Code) (pre : List Nat) (W : World) : Prop :=
  c = .exit id ∧ (∃ p x, pre = p ++ [x] ∧ (∀ y ∈ p, (qs.getD y ([], [])).1 ≠ key) ∧ (qs.getD x ([], [])).1 = key ∧ Has W (n + 1 + 1) 9 #[.string ⟨(qs.getD x ([], [])).2.toArray⟩] ∧ Has W (n + 1 + 1 + 1) 4 #[.bool true]) ∧ Below n w W
def GtM (o : Option (List UInt8)) (n : Nat) (w : World) (W : World) : Prop := (match o with
  | some v => Has W (n + 1 + 1) 9 #[.string ⟨v.toArray⟩] ∧ Has W (n + 1 + 1 + 1) 4 #[.bool true]
  | none => Has W (n + 1 + 1) 9 #[.string ⟨#[]⟩] ∧ Has W (n + 1 + 1 + 1) 4 #[.bool false]) ∧ Below n w W
theorem getQ_none {key : List UInt8} : ∀ {qs : List PairL}, (∀ q ∈ qs, q.1 ≠ key) → getQ key qs = none
  | [], _ => rfl
  | q :: r, h => by
    unfold getQ
    rw [if_neg (h q List.mem_cons_self), getQ_none (fun x hx => h x (List.mem_cons_of_mem _ hx))]
theorem getQ_some {key : List UInt8} : ∀ {qs : List PairL} {j : Nat}, (∀ i, i < j → (qs.getD i ([], [])).1 ≠ key) → (hj : j < qs.length) → (qs.getD j ([], [])).1 = key → getQ key qs = some (qs.getD j ([], [])).2
  | [], j, _, hj, _ => by simp at hj
  | q :: r, 0, _, _, he => by
    unfold getQ
    rw [if_pos (by simpa using he)]
    rfl
  | q :: r, j + 1, h, hj, he => by
    unfold getQ
    have h0 := h 0 (by omega)
    rw [if_neg (by simpa using h0)]
    have := getQ_some (qs := r) (j := j) (fun i hi => by have := h (i + 1) (by omega); simpa using this) (by simpa using hj) (by simpa using he)
    rw [this]
    rfl
theorem gt_all {qs : List PairL} {key : List UInt8} {n : Nat} {w W : World} {xs : List Nat} (hx : xs = List.range qs.length) (h : GtI qs key n w xs W) : GtM (getQ key qs) n w W := by
  obtain ⟨h1, _, h2, h3, h4⟩ := h
  have : getQ key qs = none := getQ_none (fun q hq => by
    obtain ⟨i, hi, rfl⟩ := List.getElem_of_mem hq
    have := h1 i (by rw [hx]; exact List.mem_range.2 hi)
    rwa [List.getD_eq_getElem?_getD, List.getElem?_eq_getElem hi] at this)
  unfold GtM
  rw [this]
  exact ⟨⟨h2, h3⟩, h4⟩
theorem gt_left {qs : List PairL} {key : List UInt8} {n id : Nat} {w W : World} {c : Code} {pre : List Nat} (hs : ∃ j, j < qs.length ∧ pre = List.range (j + 1)) (h : GtX qs key n w id c pre W) : c = .exit id ∧ GtM (getQ key qs) n w W := by
  obtain ⟨hc, ⟨p, x, rfl, h1, h2, h3, h4⟩, h5⟩ := h
  obtain ⟨j, hj, e⟩ := hs
  rw [← range_snoc] at e
  obtain ⟨rfl, e2⟩ := List.append_inj' e rfl
  obtain rfl : x = j := by simpa using e2
  have := getQ_some (fun i hi => h1 i (List.mem_range.2 hi)) hj h2
  refine ⟨hc, ?_⟩
  unfold GtM
  rw [this]
  exact ⟨⟨h3, h4⟩, h5⟩
theorem gtI_from (qs : List PairL) (key : List UInt8) (n : Nat) (w : World) (B : Nat) (hn : n ≤ w.heap.size) (hB : n + 1 + 1 + 1 < B) : OwnFrom B (GtI qs key n w) :=
  OwnFrom.and (ownFrom_pure _ _) (OwnFrom.and (has_from (by omega) _ _) (OwnFrom.and (has_from (by omega) _ _) (OwnFrom.and (has_from (by omega) _ _) (ownFrom_below hn (by omega)))))
theorem gtX_from (qs : List PairL) (key : List UInt8) (n id : Nat) (w : World) (B : Nat) (hn : n ≤ w.heap.size) (hB : n + 1 + 1 + 1 < B) (c : Code) : OwnFrom B (GtX qs key n w id c) := by
  intro pre X Y row ⟨hc, ⟨p, x, e, h1, h2, h3, h4⟩, h5⟩ hg hr
  refine ⟨hc, ⟨p, x, e, h1, h2, ?_, ?_⟩, ?_⟩
  · exact has_from (β := Unit) (B := B) (by omega) _ (fun _ => #[.string ⟨(qs.getD x ([], [])).2.toArray⟩]) () X Y row h3 hg hr
  · exact has_from (β := Unit) (B := B) (by omega) _ (fun _ => #[.bool true]) () X Y row h4 hg hr
  · exact ownFrom_below (β := Unit) hn (by omega) () X Y row h5 hg hr
set_option maxRecDepth 100000 in
set_option maxHeartbeats 8000000 in
theorem getT_any (A1 A2 : Option Addr) (c1 c2 : Nat) (t : TgL) (key : List UInt8) (w : World) (ht : FewT t) (hx : Prs w A2 t.2) :
    Calls Tryz.prog 22 #[.agg #[.slice A1 t.1.length c1, .slice A2 t.2.length c2], .string ⟨key.toArray⟩] w fun e w' => e = .returned (getV (getQ key t.2)) ∧ Below w.heap.size w w' := by
  obtain ⟨n, hn⟩ : ∃ n, w.heap.size = n := ⟨_, rfl⟩
  obtain ⟨w1, h1⟩ : ∃ w1, w.alloc (.cells #[.slice A1 t.1.length c1, .slice A2 t.2.length c2] 26) = w1 := ⟨_, rfl⟩
  have z0 : Has w1 n 26 #[.slice A1 t.1.length c1, .slice A2 t.2.length c2] := by rw [← h1, ← hn]; exact Has.new _ _ _
  have hz1 : w1.heap.size = n + 1 := by rw [← h1, ← hn]; simp
  obtain ⟨w2, h2⟩ : ∃ w2, w1.alloc (.cells #[.string ⟨key.toArray⟩] 9) = w2 := ⟨_, rfl⟩
  have z1 : Has w2 (n + 1) 9 #[.string ⟨key.toArray⟩] := by rw [← h2, ← hz1]; exact Has.new _ _ _
  have hz2 : w2.heap.size = n + 1 + 1 := by rw [← h2, World.size_alloc, hz1]
  obtain ⟨w3, h3⟩ : ∃ w3, w2.alloc (.cells #[.string ⟨#[]⟩] 9) = w3 := ⟨_, rfl⟩
  have z2 : Has w3 (n + 1 + 1) 9 #[.string ⟨#[]⟩] := by rw [← h3, ← hz2]; exact Has.new _ _ _
  have hz3 : w3.heap.size = n + 1 + 1 + 1 := by rw [← h3, World.size_alloc, hz2]
  obtain ⟨w4, h4⟩ : ∃ w4, w3.alloc (.cells #[.bool false] 4) = w4 := ⟨_, rfl⟩
  have z3 : Has w4 (n + 1 + 1 + 1) 4 #[.bool false] := by rw [← h4, ← hz3]; exact Has.new _ _ _
  have hz4 : w4.heap.size = n + 1 + 1 + 1 + 1 := by rw [← h4, World.size_alloc, hz3]
  have z0b : Has w4 n 26 #[.slice A1 t.1.length c1, .slice A2 t.2.length c2] := by rw [← h4, ← h3, ← h2]; exact ((z0.alloc _).alloc _).alloc _
  have z1b : Has w4 (n + 1) 9 #[.string ⟨key.toArray⟩] := by rw [← h4, ← h3]; exact (z1.alloc _).alloc _
  have z2b : Has w4 (n + 1 + 1) 9 #[.string ⟨#[]⟩] := by rw [← h4]; exact z2.alloc _
  have hB : Below n w w4 := by
    rw [← h4, ← h3, ← h2, ← h1]
    exact ((((Below.refl _ _).alloc (by omega) _).alloc (by simp; omega) _).alloc (by simp; omega) _).alloc (by simp; omega) _
  have hp := Lib.hid (pairsT_any A1 A2 c1 c2 t w4 ht (hx.below (by rw [hn]; exact hB)))
  have d0 := z0b.cell 0
  have d1 := z0b.cell 1
  have k1 := Lib.hid z1b
  have k2 := Lib.hid z2b
  have k3 := Lib.hid z3
  have hB' := Lib.hid hB
  have hlq : Hid (t.2.length ≤ 1000) := Lib.hid ht.pairs
  have hset : w4.setCell ⟨n + 1 + 1 + 1, 0, none⟩ (.bool false) = w4 := by rw [← h4, ← hz3]; simp [go_sem]
  have c3 := z3.cell 0
  have f3 := z3.free 0
  clear z0 z1 z2 z3 z0b z1b z2b hB hx
  refine (callsIn_wide (n := 6)).1 ?_
  refine callsIn_of_wp_marks Tryz.func22 rfl trivial ?_ rfl
  refine wpIn_wide.2 ?_
  simp only [Tryz.ntmps22, List.size_toArray, List.length_cons, List.length_nil, Nat.reduceAdd, Nat.reduceSub, Array.replicate_succ, Array.replicate_zero, List.push_toArray, List.append_toArray, List.nil_append, List.cons_append]
  go_wp2
  go_step3
  go_wp2
  go_step3
  go_wp2_with (go_at_call 23; (with_reducible refine Calls.mono hp.out ?_); rintro e w5 ⟨⟨gf, lb, rfl, hIt⟩, hb5⟩; have hIt' := Lib.hid hIt; have hb5' := Lib.hid hb5; have hz5 := Lib.hid hb5.size; clear hIt hb5)
  have k0 := Lib.hid (show GtI t.2 key n w [] w5 from ⟨fun _ h => (List.not_mem_nil h).elim, k1.out.below hb5'.out k1.out.lt, k2.out.below hb5'.out k2.out.lt, k3.out.below hb5'.out k3.out.lt, hB'.out.trans (hb5'.out.mono (by omega))⟩)
  have hz6 : w5.heap.size ≥ n + 1 + 1 + 1 + 1 := by have := hz5.out; omega
  refine (wpIn_wide (n := 6)).1 ?_
  refine wpIn_range_own 0 (gf := gf) (lb := lb) rfl hIt'.out.enter
    (hIt'.out.seq w5 (fun _ => False) (Below.refl _ _) (fun _ h => h.elim))
    (fun h k => h.trans k) (fun W l o o' _ h1 h2 _ => KeptC.putObj W l o o' h1 h2) (Below.refl _ _) (fun _ => rfl)
    (GtI t.2 key n w) (GtX t.2 key n w 0) (GtM (getQ key t.2) n w)
    (gtI_from t.2 key n w _ (by omega) (by omega)) (gtX_from t.2 key n 0 w _ (by omega) (by omega))
    k0.out (fun _ _ h1 h2 => gt_all h1 h2) (fun _ _ _ h1 h2 => gt_left h1 h2)
    ?a1 ?assign ?body (fun _ _ h => h) ?rest
  case assign =>
    intro l x V K hK
    have hK' := Lib.hid hK
    clear hK
    dsimp only [encQ]
    gi_wp2
    exact hK'.out
  case body =>
    rintro l pre x V ⟨g1, g2, g3, g4, g5⟩ hlen
    have y1 := g2.cell 0
    have y2 := g3.cell 0
    have y3 := g4.cell 0
    have f2 := g3.free 0
    have f4 := g4.free 0
    have g1' := Lib.hid g1
    have g2' := Lib.hid g2
    have g3' := Lib.hid g3
    have g4' := Lib.hid g4
    have g5' := Lib.hid g5
    clear g1 g2 g3 g4 g5
    obtain ⟨q, hq⟩ : ∃ q, t.2[x]?.getD ([], []) = q := ⟨_, rfl⟩
    have hq' := Lib.hid (show t.2.getD x ([], []) = q from (List.getD_eq_getElem?_getD).trans hq)
    rw [hq]
    clear hq
    by_cases hk : q.1 = key
    · have he : (q.1 == key) = true := by rw [hk]; simp
      have hk' := Lib.hid hk
      clear hk
      gi_wp2
      refine ⟨((KeepsOthers.setCell _ _ _).trans (KeepsOthers.setCell _ _ _)).from _, rfl, ⟨pre, x, rfl, g1'.out, by rw [hq'.out]; exact hk'.out, ?_, ?_⟩, (g5'.out.setCell (p := ⟨n + 1 + 1, 0, none⟩) (by show n ≤ n + 1 + 1; omega) _).setCell (p := ⟨n + 1 + 1 + 1, 0, none⟩) (by show n ≤ n + 1 + 1 + 1; omega) _⟩
      · rw [hq'.out]
        exact ((Grew.refl (n + 1 + 1 + 1) _).setT 0 _).has (g3'.out.put 0 _) (by omega)
      · exact Has.put (((Grew.refl (n + 1 + 1) _).setT 0 _).has g4'.out (by omega)) 0 _
    · have he : (q.1 == key) = false := by rw [beq_eq_false_iff_ne]; exact hk
      have hk' := Lib.hid hk
      clear hk
      gi_wp2
      refine ⟨KeepsFrom.refl _ _, KeptC.refl _ _, ?_, g2'.out, g3'.out, g4'.out, g5'.out⟩
      intro y hy
      rcases List.mem_append.1 hy with h | h
      · exact g1'.out y h
      · rw [List.mem_singleton.1 h, hq'.out]
        exact hk'.out
  case rest =>
    intro D V hD hM hk
    have hk' := Lib.hid hk
    unfold GtM at hM
    obtain ⟨hM1, hM2⟩ := hM
    have hM2' := Lib.hid hM2
    obtain ⟨o, ho⟩ : ∃ o, getQ key t.2 = o := ⟨_, rfl⟩
    rw [ho] at hM1
    have ho' := Lib.hid ho
    clear hk hM2 ho
    cases o with
    | none =>
      obtain ⟨m1, m2⟩ := hM1
      have y2 := m1.cell 0
      have y3 := m2.cell 0
      clear m1 m2
      go_wp2
      go_quiet (fail)
      go_wp2
      rw [Exit.noGoto_ret]
      have hkq : NoCalls (V.drewN nq) D := hk'.out
      refine ⟨by simp, .inl ⟨_, _, rfl, run_takeDeferred hkq, ?_⟩⟩
      refine ⟨getV none, ?_, by rw [ho'.out], ?_⟩
      · simp [results, Tryz.results22, go_sem, getV]
      · rw [hn]
        exact (below_draws hM2'.out nq).trans (belowK_b (w := w) (Nat.le_of_eq hn.symm) (V.drewN nq) D _ _ (by omega) hkq rfl rfl)
    | some v =>
      obtain ⟨m1, m2⟩ := hM1
      have y2 := m1.cell 0
      have y3 := m2.cell 0
      clear m1 m2
      go_wp2
      go_quiet (fail)
      go_wp2
      rw [Exit.noGoto_ret]
      have hkq : NoCalls (V.drewN nq) D := hk'.out
      refine ⟨by simp, .inl ⟨_, _, rfl, run_takeDeferred hkq, ?_⟩⟩
      refine ⟨getV (some v), ?_, by rw [ho'.out], ?_⟩
      · simp [results, Tryz.results22, go_sem, getV]
      · rw [hn]
        exact (below_draws hM2'.out nq).trans (belowK_b (w := w) (Nat.le_of_eq hn.symm) (V.drewN nq) D _ _ (by omega) hkq rfl rfl)
end Go.Proofs.YtcogdfgmmpfkkaaGreatDoor
