import Derived.Test.YthdmmlaahjgijaaDoorKh
import Derived.Lib.MinMax
namespace Go.Proofs.YthdmmlaahjgijaaDoor
open Go.RowKit Go.Shelf
attribute [local go_sem] Oper.semAt_some
attribute [local go_sem] wide_fn wide_depth wide_round

theorem str_fun (s : ByteArray) (hs : s.size ≤ maxLen) : ∃ (cF : World → Nat) (wF : World → World), ∀ W, (convert 9 22 (.string s)).run Tryd.prog W = .ok (.slice (some ⟨W.heap.size, 0, none⟩) s.size (cF W)) (wF W) ∧ Rd (wF W) (· = W.heap.size) (some ⟨W.heap.size, 0, none⟩) s.data.toList ∧ Below W.heap.size W (wF W) ∧ (wF W).heap.size = W.heap.size + 1 ∧ s.size ≤ cF W ∧ cF W ≤ 9223372036854775807 := by
  have hs := fun W => str_bytes W s hs
  exact ⟨fun W => (hs W).choose, fun W => (hs W).choose_spec.choose, fun W => (hs W).choose_spec.choose_spec⟩
set_option maxRecDepth 100000 in
theorem each_works (s : ByteArray) (m : Int) (w : World) (hT : Tab w) (hl : 300 < s.size) :
    Calls Tryd.prog 5 #[.string s, .int .i64 m] w fun e w' => e = .returned (.bool true) ∧ Below w.heap.size w w' := by
  have hB1 : Below w.heap.size w ((w.alloc (.cells #[.int .i64 m] 3)).alloc (.cells #[.bool false] 4)) := ((Below.refl _ _).alloc (Nat.le_refl _) _).alloc (by simp) _
  have k1 := Has.new (w.alloc (.cells #[.int .i64 m] 3)) 4 #[.bool false]
  simp only [World.size_alloc] at k1
  have hw := Lib.hid (works_any _ (hT.below hB1))
  have hB1' := Lib.hid hB1
  have k1' := Lib.hid k1
  clear hT hB1 k1
  refine (callsIn_wide (n := 3)).1 ?_
  refine callsIn_of_wp_marks Tryd.func5 rfl trivial ?_ rfl
  refine wpIn_wide.2 ?_
  simp only [Tryd.ntmps5, List.size_toArray, List.length_cons, List.length_nil, Nat.reduceAdd, Nat.reduceSub, Array.replicate_succ, Array.replicate_zero, List.push_toArray, List.append_toArray, List.nil_append, List.cons_append]
  go_wp2_with fail
  with_reducible refine Calls.mono hw.out ?_
  rintro e w9 ⟨rfl, hb9⟩
  have k9 := k1'.out.below hb9 k1'.out.lt
  have e9 := k9.cell 0
  have f9 := k9.free 0
  have g10 := (k9.put 0 (.bool true)).cell 0
  have hb10 := Lib.hid ((hB1'.out.trans (hb9.mono hB1'.out.size)).setCell (p := ⟨w.heap.size + 1, 0, none⟩) (by simp) (.bool true))
  clear hb9
  go_wp2
  refine ⟨.bool true, ?_, rfl, hb10.out⟩
  simp [results, Tryd.results5, go_sem, g10]
theorem placesF_lt (l : List UInt8) : ∀ (f p q : Nat), q ∈ placesF l f p → q < l.length
  | 0, _, _, h => absurd h (by unfold placesF; simp)
  | f + 1, p, q, h => by
    unfold placesF at h
    split at h
    · rcases List.mem_cons.1 h with rfl | h
      · assumption
      · exact placesF_lt l f _ q h
    · exact absurd h (by simp)
theorem ones_cur {W : World} {n0 : Nat} {v : Value} {L : List UInt8} (h : Ones W n0 v (ptsOf L (placesFrom L 0))) (h0 : 0 < W.heap.size) :
    ∃ A c q cur, v = .slice A (ptsN L) c ∧ q < W.heap.size ∧ (0 < ptsN L → A = some ⟨q, 0, none⟩ ∧ Has W q 37 cur ∧ CurOf L cur) := by
  have hl : (ptsOf L (placesFrom L 0)).length = ptsN L := by simp [ptsOf, ptsN]
  have hh := h
  rcases h.2 with ⟨rfl, h1⟩ | ⟨g, cap, cur, rfl, hb, hg, _⟩
  · rw [hl] at h1
    exact ⟨none, 0, 0, #[], by rw [h1], h0, fun hn => by omega⟩
  · refine ⟨some ⟨g, 0, none⟩, cap, g, cur, by rw [hl], (Array.getElem?_eq_some_iff.1 hg).1, fun _ => ⟨rfl, hg, fun k p hp => ?_⟩⟩
    have hc := fun j u hu => World.ownsRow.cells (g := g) hh rfl j u hu
    simp only [add_zero_, Nat.zero_add] at hc
    have hcell : ∀ i, W.cell? ⟨g, i, none⟩ = cur[i]? := fun i => Has.cell (t := 37) hg i
    obtain ⟨a, b⟩ := onesC_get _ k _ (pts_get hp)
    have ha := hc _ _ a
    have hb := hc _ _ b
    rw [hcell] at ha hb
    exact ⟨ha, hb⟩
set_option maxRecDepth 100000 in
set_option maxHeartbeats 4000000 in
theorem lawEach (s : ByteArray) (m : Int) (w : World) (hT : Tab w) (hl : s.size ≤ 300) :
    Calls Tryd.prog 5 #[.string s, .int .i64 m] w fun e w' => e = .returned (.bool true) ∧ Below w.heap.size w w' := by
  have hT' := Lib.hid hT
  clear hT
  obtain ⟨cF, wF, hstr⟩ := str_fun s (by unfold maxLen; omega)
  have hsc := fun W => (hstr W).1
  have hstr' := Lib.hid (fun W => (hstr W).2)
  clear hstr
  refine (callsIn_wide (n := 3)).1 ?_
  refine callsIn_of_wp_marks Tryd.func5 rfl trivial ?_ rfl
  refine wpIn_wide.2 ?_
  simp only [Tryd.ntmps5, List.size_toArray, List.length_cons, List.length_nil, Nat.reduceAdd, Nat.reduceSub, Array.replicate_succ, Array.replicate_zero, List.push_toArray, List.append_toArray, List.nil_append, List.cons_append]
  go_wp2_with fail
  have hB1 : Below w.heap.size w ((w.alloc (.cells #[.int .i64 m] 3)).alloc (.cells #[.bool false] 4)) := ((Below.refl _ _).alloc (Nat.le_refl _) _).alloc (by simp) _
  have k0 := (Has.new w 3 #[.int .i64 m]).alloc (.cells #[.bool false] 4)
  have k1 := Has.new (w.alloc (.cells #[.int .i64 m] 3)) 4 #[.bool false]
  simp only [World.size_alloc] at k1
  obtain ⟨w1, hw1⟩ : ∃ w1, (w.alloc (.cells #[.int .i64 m] 3)).alloc (.cells #[.bool false] 4) = w1 := ⟨_, rfl⟩
  have z1 : w1.heap.size = w.heap.size + 1 + 1 := by rw [← hw1]; simp
  rw [hw1] at hB1 k0 k1 ⊢
  clear hw1
  obtain ⟨hr2, hb2, z2, hc2, hc2m⟩ := hstr'.out w1
  generalize wF w1 = w2 at hr2 hb2 z2 ⊢
  generalize cF w1 = c2 at hc2 hc2m ⊢
  rw [z1] at hr2
  have hall := all_any _ s.data.toList s.size c2 w2 (hr2.mono (fun b (hb : b = w.heap.size + 1 + 1) => by show b < w2.heap.size; omega)) (by simp) hc2 hc2m (by omega)
  with_reducible refine Calls.mono hall ?_
  rintro e w3 ⟨v, rfl, hv, hb3⟩
  have hz3 := hb3.size
  have hb13 : Below w1.heap.size w1 w3 := hb2.trans (hb3.mono (by omega))
  have hB3 := hB1.trans (hb13.mono (by omega))
  obtain ⟨A, c, q, cur, rfl, hq, hcur⟩ := ones_cur hv (by omega)
  have k0 := k0.below hb13 (by omega)
  have k1 := k1.below hb13 (by omega)
  have hN : ptsN s.data.toList ≤ 300 := by
    have := places_len s.data.toList 0
    have e : s.data.toList.length = s.size := by simp only [Array.length_toList]; rfl
    unfold ptsN
    omega
  obtain ⟨C, hC⟩ : ∃ C, w3.heap.size = C := ⟨_, rfl⟩
  have hCw : w.heap.size + 1 < C := by omega
  rw [hC] at hq
  have hB3' := Lib.hid hB3
  have k0' := Lib.hid k0
  have k1' := Lib.hid k1
  have hcur' := Lib.hid hcur
  have hC' := Lib.hid hC
  clear hB1 k0 k1 hr2 hb2 hall hv hb3 hb13 hB3 hcur z1 z2 hz3 hC hsc hstr'
  obtain ⟨N, hNe⟩ : ∃ N, ptsN s.data.toList = N := ⟨_, rfl⟩
  rw [hNe] at hN ⊢
  have hNe' := Lib.hid hNe
  clear hNe
  go_wp2_with fail
  with_reducible refine Calls.mono (each_any s _) ?_
  rintro e w5 ⟨rfl, rfl⟩
  have q0 := (k0'.out.alloc (.cells #[.slice A N c] 31)).alloc (.cells #[.string s] 9)
  have q1 := (k1'.out.alloc (.cells #[.slice A N c] 31)).alloc (.cells #[.string s] 9)
  have q2 := (Has.new w3 31 #[.slice A N c]).alloc (.cells #[.string s] 9)
  have q3 := Has.new (w3.alloc (.cells #[.slice A N c] 31)) 9 #[.string s]
  have q6 : 0 < ptsN s.data.toList → Has _ q 37 cur := fun h => ((hcur'.out h).2.1.alloc (.cells #[.slice A N c] 31)).alloc (.cells #[.string s] 9)
  have hB5 := (hB3'.out.alloc (by have := hC'.out; omega) (.cells #[.slice A N c] 31)).alloc (by have := hC'.out; simp; omega) (.cells #[.string s] 9)
  have z5 : ((w3.alloc (.cells #[.slice A N c] 31)).alloc (.cells #[.string s] 9)).heap.size = C + 1 + 1 := by simp [hC'.out]
  simp only [World.size_alloc] at q3
  rw [hC'.out] at q2 q3
  rw [World.size_alloc, hC'.out]
  generalize ((w3.alloc (.cells #[.slice A N c] 31)).alloc (.cells #[.string s] 9)) = w5 at q0 q1 q2 q3 q6 hB5 z5 ⊢
  have hcurA : Hid (0 < N → A = some ⟨q, 0, none⟩ ∧ CurOf s.data.toList cur) := Lib.hid (fun h => by rw [← hNe'.out] at h; exact ⟨(hcur'.out h).1, (hcur'.out h).2.2⟩)
  clear hcur' hB3' k0' k1' hC'
  have hnil : ∀ (fn : Fn) (f c : Array Value) (w : World), Sem.run Tryd.prog (binOp BinOp.eql 34 (Value.func fn f c) Value.nilFunc) w = .ok (.bool false) w := fun _ _ _ _ => by kernel_rfl
  go_wp2
  clear hnil
  refine (wpIn_wide (n := 3)).1 ?_
  refine wpIn_loop_rounds 3 ?_
  rw [roundsIn_succ]
  have z5' := Lib.hid z5
  have q4 := (Has.new w5 3 #[.int .i64 0]).alloc (.cells #[.int .i64 0] 3)
  have q5 := Has.new (w5.alloc (.cells #[.int .i64 0] 3)) 3 #[.int .i64 0]
  simp only [World.size_alloc, z5] at q4 q5
  have hM : UeM w m s C q (.slice A N c) cur (C + 1 + 1) (C + 1 + 1 + 1) 0 [] 0 ((w5.alloc (.cells #[.int .i64 0] 3)).alloc (.cells #[.int .i64 0] 3)) :=
    ⟨(q0.alloc _).alloc _, (q1.alloc _).alloc _, (q2.alloc _).alloc _, (q3.alloc _).alloc _, q4, q5, fun h => ((q6 h).alloc _).alloc _, fun _ h => (List.not_mem_nil h).elim, (hB5.alloc (by omega) _).alloc (by simp only [World.size_alloc]; omega) _⟩
  have hM := Lib.hid hM
  have hT5 := Lib.hid (hT'.out.below hB5)
  clear q0 q1 q2 q3 q4 q5 q6 hB5
  gi_wp2
  obtain ⟨w6, hw6⟩ : ∃ w6, (w5.alloc (.cells #[.int .i64 0] 3)).alloc (.cells #[.int .i64 0] 3) = w6 := ⟨_, rfl⟩
  have z6 : w6.heap.size = C + 1 + 1 + 1 + 1 := by rw [← hw6]; simp [z5'.out]
  rw [hw6] at hM ⊢
  clear hw6
  obtain ⟨d0, d1, d2, d3, d4, d5, d6, _, hB6⟩ := hM.out
  have hT6 := hT'.out.below hB6
  have hgl := hT'.out.lt
  refine wpIn_range_own 2 (gf := 47) (lb := #[.pointer (some ⟨C + 1, 0, none⟩)]) rfl (enters_of Tryd.func47 (by kernel_rfl) rfl)
    (each_stops s (by omega) (C + 1) (fun j => j = w.heap.size + 1 ∨ j = C + 1 + 1 + 1) w6 (fun j hj => by rcases hj with h | h <;> omega) (fun hj => by rcases hj with h | h <;> omega) (fun hj => by rcases hj with h | h <;> omega) hT6 d3)
    (fun h k => h.trans k) (fun W l o o' _ h1 h2 _ => KeepC.putObj W l o o' h1 h2) (Below.refl _ _) (fun _ => rfl)
    (UeI w m s C q (.slice A N c) cur (C + 1 + 1) (C + 1 + 1 + 1) 0 []) (UeX w m s C q (.slice A N c) cur (C + 1 + 1) (C + 1 + 1 + 1) 0 []) (UeM w m s C q (.slice A N c) cur (C + 1 + 1) (C + 1 + 1 + 1) 0 [] (ueCount m N 0))
    (ueI_from _ _ _ _ _ _ _ _ _ _ _ _ (by omega) (by omega) (by omega) (by omega) (by omega) (fun _ h => (List.not_mem_nil h).elim)) (ueX_from _ _ _ _ _ _ _ _ _ _ _ _ (by omega) (by omega) (by omega) (by omega) (by omega) (fun _ h => (List.not_mem_nil h).elim))
    ⟨⟨⟨rfl, Nat.zero_le _⟩, fun _ => .inl rfl⟩, hM.out⟩ (fun _ _ h1 h2 => by have := ue_all h1 h2; rwa [hNe'.out] at this) (fun _ _ _ h1 h2 => by have := ue_left h1 h2; rwa [hNe'.out] at this) ?a1 ?assign ?body (fun _ _ h => h) ?rest
  case assign =>
    intro l x W K hK
    have hK' := Lib.hid hK
    clear hK
    dsimp only [encPt]
    gi_wp2
    exact hK'.out
  case body =>
    rintro l pre x W ⟨⟨hfit, hcond⟩, hM⟩ hlen
    have hM' := Lib.hid hM
    obtain ⟨d0, d1, d2, d3, d4, d5, d6, _, hB⟩ := hM
    have e0 := d0.cell 0
    have e1c := d1.cell 0
    have e2 := d2.cell 0
    have e4 := d4.cell 0
    have e5 := d5.cell 0
    have f1 := d1.free 0
    have f5 := d5.free 0
    have hx4 : x.val < s.data.toList.length := x.isLt
    have hxs : s.data.toList.length = s.size := by simp only [Array.length_toList]; rfl
    have hpt : (lookAt s.data.toList x.val).point ≤ 1114111 := (look_isPt _).1
    obtain ⟨pt, hpe⟩ : ∃ pt, (lookAt s.data.toList x.val).point = pt := ⟨_, rfl⟩
    obtain ⟨xv, hxe⟩ : ∃ xv, x.val = xv := ⟨_, rfl⟩
    have hpe' := Lib.hid hpe
    have hxe' := Lib.hid hxe
    rw [hpe] at hpt ⊢
    rw [hxe] at hx4 ⊢
    have hfit' := Lib.hid hfit
    have hcond' := Lib.hid hcond
    have hl1 : Hid ((pre ++ [x]).length = pre.length + 1) := Lib.hid (by simp)
    have hpl : pre.length ≤ 300 := by omega
    have hfl := hfit.2
    rw [hNe'.out] at hfl
    obtain ⟨pl, hple⟩ : ∃ pl, pre.length = pl := ⟨_, rfl⟩
    have hple' := Lib.hid hple
    rw [hple] at e5 hpl hfl
    by_cases hlt : pl < N
    · obtain ⟨rfl, hcu⟩ := hcurA.out (by omega)
      obtain ⟨p, hp⟩ : ∃ p, (placesFrom s.data.toList 0)[pl]? = some p := ⟨(placesFrom s.data.toList 0)[pl]'(by have := hNe'.out; unfold ptsN at this; omega), List.getElem?_eq_getElem (by have := hNe'.out; unfold ptsN at this; omega)⟩
      obtain ⟨u0, u1⟩ := hcu pl p hp
      have hq := d6 (by rw [hNe'.out]; omega)
      have g0 := hq.cell (pl * 2)
      have g1 := hq.cell (pl * 2 + 1)
      rw [u0] at g0
      rw [u1] at g1
      have hpb : p ≤ 4611686018427387904 := by
        have := placesF_lt _ _ _ _ (List.mem_of_getElem? hp)
        omega
      have hpt2 : (lookAt s.data.toList p).point ≤ 1114111 := (look_isPt _).1
      obtain ⟨pt2, hpe2⟩ : ∃ pt2, (lookAt s.data.toList p).point = pt2 := ⟨_, rfl⟩
      have hpe2' := Lib.hid hpe2
      rw [hpe2] at g1 hpt2
      have heq : ∀ w, (Op.equalIn 10000 37 (.agg #[.int .i64 (p : Int), .int .i64 (pt2 : Int)]) (.agg #[.int .i64 (xv : Int), .int .i64 (pt : Int)])).run Tryd.prog w = .ok (decide (p = xv ∧ pt2 = pt)) w := fun w => one_equal p pt2 xv pt hpb (by omega) (by omega) (by omega) w
      have hp' := Lib.hid hp
      have hli : (pl : Int) < (N : Int) := by omega
      clear hpe hxe hple hpe2 hp hfit hcond d0 d1 d2 d3 d4 d5 d6 hB hq u0 u1 hcu hfl
      have e1 : Hid (((pre ++ [x]).length : Int) = (pl : Int) + 1) := Lib.hid (by rw [hl1.out, hple'.out]; rfl)
      have hcnt := Lib.hid (hM'.out.count hCw (by omega) (by omega) (by omega) ((pl : Int) + 1))
      by_cases he : p = xv ∧ pt2 = pt
      · rw [decide_eq_true he] at heq
        have hnx : Hid (FitE s.data.toList (pre ++ [x])) := Lib.hid (fitE_next hfit'.out (by rw [hple'.out, hp'.out, hxe'.out, he.1]))
        clear he
        by_cases hm : m ≤ (pl : Int) + 1
        · gi_wp2
          refine ⟨(KeepsOthers.setCell _ _ _).from _, .inr ⟨rfl, rfl, hnx.out, by rw [e1.out]; exact hm, ?_, by rw [hl1.out]; omega, by rw [e1.out]; exact hcnt.out⟩⟩
          rw [e1.out, hl1.out]
          have := hcond'.out trivial
          rw [hple'.out] at this
          have := hple'.out
          omega
        · gi_wp2
          refine ⟨(KeepsOthers.setCell _ _ _).from _, (KeepC.refl _ _ _).setCell (.inr rfl) _, ⟨hnx.out, fun _ => .inr (by rw [e1.out]; omega)⟩, by rw [e1.out]; exact hcnt.out⟩
      · rw [decide_eq_false he] at heq
        have he' := Lib.hid he
        clear he
        gi_wp2
        refine ⟨(KeepsOthers.setCell _ _ _).from _, .inl ⟨rfl, fun hff => he'.out ?_⟩⟩
        have hla := fitE_last hff
        rw [hple'.out, hp'.out, hxe'.out] at hla
        obtain rfl := Option.some.inj hla
        exact ⟨rfl, by rw [← hpe2'.out, ← hpe'.out, hxe'.out]⟩
    · have hli : (N : Int) ≤ (pl : Int) := by omega
      clear hpe hxe hple hfit hcond d0 d1 d2 d3 d4 d5 d6 hB hfl
      gi_wp2
      refine ⟨(KeepsOthers.setCell _ _ _).from _, .inl ⟨rfl, fun hff => ?_⟩⟩
      have := hff.2
      rw [hl1.out, hple'.out, hNe'.out] at this
      omega
  case rest =>
    rintro D W hD hM hDn
    have hM' := Lib.hid hM
    have hDn' := Lib.hid hDn
    have hDW := hDn.lt
    obtain ⟨d0, d1, d2, d3, d4, d5, d6, _, hB⟩ := hM
    have e0 := d0.cell 0
    have e2 := d2.cell 0
    have e4 := d4.cell 0
    have e5 := d5.cell 0
    have hcn : ueCount m N 0 = min (N : Int) (max 1 m) := rfl
    rw [hcn] at e5
    have hgW : C + 1 + 1 + 1 < W.heap.size := d5.lt
    have d0' := Lib.hid d0
    have d1' := Lib.hid d1
    have d2' := Lib.hid d2
    have d3' := Lib.hid d3
    have d6' := Lib.hid d6
    have hB' := Lib.hid hB
    clear hDn d0 d1 d2 d3 d4 d5 d6 hB hT6
    gi_wp2
    rw [roundsIn_succ]
    have q4 := (Has.new W 3 #[.int .i64 1]).alloc (.cells #[.int .i64 0] 3)
    have q5 := Has.new (W.alloc (.cells #[.int .i64 1] 3)) 3 #[.int .i64 0]
    simp only [World.size_alloc] at q5
    have n2 : UeM w m s C q (.slice A N c) cur W.heap.size (W.heap.size + 1) 1 [D] 0 ((W.alloc (.cells #[.int .i64 1] 3)).alloc (.cells #[.int .i64 0] 3)) :=
      ⟨(d0'.out.alloc _).alloc _, (d1'.out.alloc _).alloc _, (d2'.out.alloc _).alloc _, (d3'.out.alloc _).alloc _, q4, q5, fun h => ((d6'.out h).alloc _).alloc _, fun D' h => by rw [List.mem_singleton.1 h]; exact (hDn'.out.alloc _).alloc _, (hB'.out.alloc (by omega) _).alloc (by simp only [World.size_alloc]; omega) _⟩
    have n2' := Lib.hid n2
    clear q4 q5 n2 hM' e0 e2 e4 e5 d0' d1' d2' d3' d6' hB' hcn
    gi_wp2
    obtain ⟨w7, hw7⟩ : ∃ w7, (W.alloc (.cells #[.int .i64 1] 3)).alloc (.cells #[.int .i64 0] 3) = w7 := ⟨_, rfl⟩
    have z7 : w7.heap.size = W.heap.size + 1 + 1 := by rw [← hw7]; simp
    rw [hw7] at n2' ⊢
    clear hw7
    obtain ⟨d0, d1, d2, d3, d4, d5, d6, _, hB7⟩ := n2'.out
    have hT7 := hT'.out.below hB7
    refine wpIn_range_own 2 (gf := 47) (lb := #[.pointer (some ⟨C + 1, 0, none⟩)]) rfl (enters_of Tryd.func47 (by kernel_rfl) rfl)
      (each_stops s (by omega) (C + 1) (fun j => j = w.heap.size + 1 ∨ j = W.heap.size + 1) w7 (fun j hj => by rcases hj with h | h <;> omega) (fun hj => by rcases hj with h | h <;> omega) (fun hj => by rcases hj with h | h <;> omega) hT7 d3)
      (fun h k => h.trans k) (fun W l o o' _ h1 h2 _ => KeepC.putObj W l o o' h1 h2) (Below.refl _ _) (fun _ => rfl)
      (UeI w m s C q (.slice A N c) cur W.heap.size (W.heap.size + 1) 1 [D]) (UeX w m s C q (.slice A N c) cur W.heap.size (W.heap.size + 1) 1 [D]) (UeM w m s C q (.slice A N c) cur W.heap.size (W.heap.size + 1) 1 [D] (ueCount m N 1))
      (ueI_from _ _ _ _ _ _ _ _ _ _ _ _ (by omega) (by omega) (by omega) (by omega) (by omega) (fun D' h => by rw [List.mem_singleton.1 h]; omega)) (ueX_from _ _ _ _ _ _ _ _ _ _ _ _ (by omega) (by omega) (by omega) (by omega) (by omega) (fun D' h => by rw [List.mem_singleton.1 h]; omega))
      ⟨⟨⟨rfl, Nat.zero_le _⟩, fun _ => .inl rfl⟩, n2'.out⟩ (fun _ _ h1 h2 => by have := ue_all h1 h2; rwa [hNe'.out] at this) (fun _ _ _ h1 h2 => by have := ue_left h1 h2; rwa [hNe'.out] at this) ?_ ?_ ?_ (fun _ _ h => h) ?_
    rotate_left
    · intro l x W9 K hK
      have hK' := Lib.hid hK
      clear hK
      dsimp only [encPt]
      gi_wp2
      exact hK'.out
    · clear d0 d1 d2 d3 d4 d5 d6 hB7
      rintro l pre x W9 ⟨⟨hfit, hcond⟩, hM⟩ hlen
      have hM' := Lib.hid hM
      obtain ⟨d0, d1, d2, d3, d4, d5, d6, _, hB⟩ := hM
      have e0 := d0.cell 0
      have e1c := d1.cell 0
      have e2 := d2.cell 0
      have e4 := d4.cell 0
      have e5 := d5.cell 0
      have f1 := d1.free 0
      have f5 := d5.free 0
      have hx4 : x.val < s.data.toList.length := x.isLt
      have hxs : s.data.toList.length = s.size := by simp only [Array.length_toList]; rfl
      have hpt : (lookAt s.data.toList x.val).point ≤ 1114111 := (look_isPt _).1
      obtain ⟨pt, hpe⟩ : ∃ pt, (lookAt s.data.toList x.val).point = pt := ⟨_, rfl⟩
      obtain ⟨xv, hxe⟩ : ∃ xv, x.val = xv := ⟨_, rfl⟩
      have hpe' := Lib.hid hpe
      have hxe' := Lib.hid hxe
      rw [hpe] at hpt ⊢
      rw [hxe] at hx4 ⊢
      have hfit' := Lib.hid hfit
      have hcond' := Lib.hid hcond
      have hl1 : Hid ((pre ++ [x]).length = pre.length + 1) := Lib.hid (by simp)
      have hpl : pre.length ≤ 300 := by omega
      have hfl := hfit.2
      rw [hNe'.out] at hfl
      obtain ⟨pl, hple⟩ : ∃ pl, pre.length = pl := ⟨_, rfl⟩
      have hple' := Lib.hid hple
      rw [hple] at e5 hpl hfl
      by_cases hlt : pl < N
      · obtain ⟨rfl, hcu⟩ := hcurA.out (by omega)
        obtain ⟨p, hp⟩ : ∃ p, (placesFrom s.data.toList 0)[pl]? = some p := ⟨(placesFrom s.data.toList 0)[pl]'(by have := hNe'.out; unfold ptsN at this; omega), List.getElem?_eq_getElem (by have := hNe'.out; unfold ptsN at this; omega)⟩
        obtain ⟨u0, u1⟩ := hcu pl p hp
        have hq := d6 (by rw [hNe'.out]; omega)
        have g0 := hq.cell (pl * 2)
        have g1 := hq.cell (pl * 2 + 1)
        rw [u0] at g0
        rw [u1] at g1
        have hpb : p ≤ 4611686018427387904 := by
          have := placesF_lt _ _ _ _ (List.mem_of_getElem? hp)
          omega
        have hpt2 : (lookAt s.data.toList p).point ≤ 1114111 := (look_isPt _).1
        obtain ⟨pt2, hpe2⟩ : ∃ pt2, (lookAt s.data.toList p).point = pt2 := ⟨_, rfl⟩
        have hpe2' := Lib.hid hpe2
        rw [hpe2] at g1 hpt2
        have heq : ∀ w, (Op.equalIn 10000 37 (.agg #[.int .i64 (p : Int), .int .i64 (pt2 : Int)]) (.agg #[.int .i64 (xv : Int), .int .i64 (pt : Int)])).run Tryd.prog w = .ok (decide (p = xv ∧ pt2 = pt)) w := fun w => one_equal p pt2 xv pt hpb (by omega) (by omega) (by omega) w
        have hp' := Lib.hid hp
        have hli : (pl : Int) < (N : Int) := by omega
        clear hpe hxe hple hpe2 hp hfit hcond d0 d1 d2 d3 d4 d5 d6 hB hq u0 u1 hcu hfl
        have e1 : Hid (((pre ++ [x]).length : Int) = (pl : Int) + 1) := Lib.hid (by rw [hl1.out, hple'.out]; rfl)
        have hcnt := Lib.hid (hM'.out.count hCw (by omega) (by omega) (by omega) ((pl : Int) + 1))
        by_cases he : p = xv ∧ pt2 = pt
        · rw [decide_eq_true he] at heq
          have hnx : Hid (FitE s.data.toList (pre ++ [x])) := Lib.hid (fitE_next hfit'.out (by rw [hple'.out, hp'.out, hxe'.out, he.1]))
          clear he
          gi_wp2
          refine ⟨(KeepsOthers.setCell _ _ _).from _, (KeepC.refl _ _ _).setCell (.inr rfl) _, ⟨hnx.out, fun h => by cases h⟩, by rw [e1.out]; exact hcnt.out⟩
        · rw [decide_eq_false he] at heq
          have he' := Lib.hid he
          clear he
          gi_wp2
          refine ⟨(KeepsOthers.setCell _ _ _).from _, .inl ⟨rfl, fun hff => he'.out ?_⟩⟩
          have hla := fitE_last hff
          rw [hple'.out, hp'.out, hxe'.out] at hla
          obtain rfl := Option.some.inj hla
          exact ⟨rfl, by rw [← hpe2'.out, ← hpe'.out, hxe'.out]⟩
      · have hli : (N : Int) ≤ (pl : Int) := by omega
        clear hpe hxe hple hfit hcond d0 d1 d2 d3 d4 d5 d6 hB hfl
        gi_wp2
        refine ⟨(KeepsOthers.setCell _ _ _).from _, .inl ⟨rfl, fun hff => ?_⟩⟩
        have := hff.2
        rw [hl1.out, hple'.out, hNe'.out] at this
        omega
    · rintro D2 W2 hD2 hM2 hDn2
      have hDn2' := Lib.hid hDn2
      have hDW2 := hDn2.lt
      clear d0 d1 d2 d3 d4 d5 d6 hB7
      obtain ⟨g0, g1, g2, g3, g4, g5, g6, hds, gB⟩ := hM2
      have hds' := Lib.hid hds
      have e0 := g0.cell 0
      have e2 := g2.cell 0
      have e4 := g4.cell 0
      have e5 := g5.cell 0
      have g1' := Lib.hid g1
      have gB' := Lib.hid gB
      have hcn2 : ueCount m N 1 = (N : Int) := rfl
      rw [hcn2] at e5
      have hgl1 := g1.lt
      clear hds hDn2 g0 g1 g2 g3 g4 g5 g6 gB hcn2
      gi_wp2
      rw [roundsIn_succ]
      have e7 := (Has.new W2 3 #[.int .i64 2]).cell 0
      have g1x := g1'.out.alloc (.cells #[.int .i64 2] 3)
      have e8 := g1x.cell 0
      have f8 := g1x.free 0
      have hT9 : Tab (W2.alloc (.cells #[.int .i64 2] 3)) := hT'.out.below (gB'.out.alloc (by omega) _)
      gi_wp2_with fail
      go_wp2_with fail
      with_reducible refine Calls.mono (works_any _ hT9) ?_
      rintro e w9 ⟨rfl, hb9⟩
      have g9 := g1x.below hb9 g1x.lt
      have e9 := g9.cell 0
      have f9 := g9.free 0
      have k2 := Lib.hid (((hDn2'.out.alloc (.cells #[.int .i64 2] 3)).below hb9 (by simp; omega)).set (i := 0) g9 (.bool true))
      have k1 := Lib.hid ((((hds'.out D List.mem_cons_self).alloc (.cells #[.int .i64 2] 3)).below hb9 (by simp; omega)).set (i := 0) g9 (.bool true))
      have g10 := g9.put 0 (.bool true)
      have hb10 := Lib.hid (((gB'.out.alloc (by omega) (.cells #[.int .i64 2] 3)).trans (hb9.mono (by simp; omega))).setCell (p := ⟨w.heap.size + 1, 0, none⟩) (by simp) (.bool true))
      go_wp2
      have hne : D ≠ D2 := by omega
      have k1' := (k1.out.put (.deferred none) hne)
      refine ⟨by simp, .inl ⟨_, _, rfl, run_takeDeferred k2.out, ⟨by simp, .inl ⟨_, _, rfl, run_takeDeferred k1', ?_⟩⟩⟩⟩
      have g11 := ((g10.put_obj (.deferred none) (l := D2) (by omega)).put_obj (.deferred none) (l := D) (by omega)).cell 0
      refine ⟨.bool true, ?_, rfl, ?_⟩
      · simp [results, Tryd.results5, go_sem, g11]
      · exact (hb10.out.trans (belowK_b (w := w) (Nat.le_refl _) _ D2 _ _ (by omega) k2.out rfl rfl)).trans (belowK_b (w := w) (Nat.le_refl _) _ D _ _ (by omega) k1' rfl rfl)
end Go.Proofs.YthdmmlaahjgijaaDoor
