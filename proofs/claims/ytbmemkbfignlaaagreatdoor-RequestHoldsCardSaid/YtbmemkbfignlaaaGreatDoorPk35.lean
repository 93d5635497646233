import Derived.Test.YtbmemkbfignlaaaGreatDoorPk32
namespace Go.Proofs.YtbmemkbfignlaaaGreatDoor
open Go.RowKit Go.Shelf
attribute [local go_sem] Oper.semAt_some
attribute [local go_sem] wideF_fn wideF_depth wideF_round

/-! ## A range is read -/
def RngR (o : Option Ac.Rg) (w : World) (e : Ending) (w' : World) : Prop := (match o with
  | some r => e = .returned (.agg (rgC r).toArray)
  | none => e = gaveEA) ∧ Below w.heap.size w w'
theorem rngR_no {o : Option Ac.Rg} {w w' : World} (h : o = none) (hb : Below w.heap.size w w') : RngR o w gaveEA w' := by subst h; exact ⟨rfl, hb⟩
theorem rngR_yes {o : Option Ac.Rg} {r : Ac.Rg} {w w' : World} (h : o = some r) (hb : Below w.heap.size w w') : RngR o w (.returned (.agg (rgC r).toArray)) w' := by subst h; exact ⟨rfl, hb⟩
/-- A world behind the call's beginning: the range that it tells lies ready, what was there is as it was. -/
structure RgW (n : Nat) (w W : World) : Prop where
  b : Below n w W
  h : Has W n 116 #[.string ⟨#[]⟩, .string ⟨#[]⟩, .int .i64 0, .int .i64 0]
/-- The parts so far. -/
def PtI (n : Nat) (w : World) (L : List (List UInt8)) (U : Nat → Prop) (j : Nat) (V : World) : Prop :=
  ∃ v, Has V (n + 1) 29 #[v] ∧ Strs V n v (L.take j) ∧ (∀ g, v.ownBlock = some g → ¬ U g) ∧ (∀ k, U k → n + 1 < k) ∧ RgW n w V ∧ n + 2 ≤ V.heap.size
theorem ptI_turn {n : Nat} {w : World} {L : List (List UInt8)} {U U' : Nat → Prop} {j : Nat} {X Y : World} (h : PtI n w L U j X) (ht : TurnU U U' X Y) : PtI n w L U' j Y := by
  obtain ⟨v, h1, h2, h3, h4, h5, h6⟩ := h
  have n1 : ¬ U (n + 1) := fun h => by have := h4 _ h; omega
  have n0 : ¬ U n := fun h => by have := h4 _ h; omega
  have hg : ∀ g, v.ownBlock = some g → g < X.heap.size := fun g hg => by obtain ⟨_, cs, hc⟩ := h2.own g hg; exact hc.lt
  exact ⟨v, ht.has n1 h1, strs_kept h2 (fun g hg' => ht.same g (hg g hg') (h3 g hg')), fun g hg' => ht.out (h3 g hg') (hg g hg'), fun k hk => (ht.more k hk).elim (h4 k) (fun h => by omega),
    ⟨ht.below (fun k hk => by have := h4 k hk; omega) (by omega) h5.b, ht.has n0 h5.h⟩, by have := ht.size; omega⟩
abbrev S5 (W : World) (k : Nat) (a b c d e : Value) : World := ((((W.setCell ⟨k, 0, none⟩ a).setCell ⟨k, 1, none⟩ b).setCell ⟨k, 2, none⟩ c).setCell ⟨k, 3, none⟩ d).setCell ⟨k, 4, none⟩ e
theorem S5_has {W : World} {k : Nat} {t : TypeId} {a0 b0 c0 d0 e0 : Value} (h : Has W k t #[a0, b0, c0, d0, e0]) (a b c d e : Value) : Has (S5 W k a b c d e) k t #[a, b, c, d, e] := by
  simpa using ((((h.put 0 a).put 1 b).put 2 c).put 3 d).put 4 e
theorem S5_below {B : Nat} {w W : World} (h : Below B w W) {k : Nat} (hk : B ≤ k) (a b c d e : Value) : Below B w (S5 W k a b c d e) :=
  ((((h.setCell (p := ⟨k, 0, none⟩) hk a).setCell (p := ⟨k, 1, none⟩) hk b).setCell (p := ⟨k, 2, none⟩) hk c).setCell (p := ⟨k, 3, none⟩) hk d).setCell (p := ⟨k, 4, none⟩) hk e
abbrev S4 (W : World) (k : Nat) (a b c d : Value) : World := (((W.setCell ⟨k, 0, none⟩ a).setCell ⟨k, 1, none⟩ b).setCell ⟨k, 2, none⟩ c).setCell ⟨k, 3, none⟩ d
theorem S4_has {W : World} {k : Nat} {t : TypeId} {a0 b0 c0 d0 : Value} (h : Has W k t #[a0, b0, c0, d0]) (a b c d : Value) : Has (S4 W k a b c d) k t #[a, b, c, d] := by
  simpa using (((h.put 0 a).put 1 b).put 2 c).put 3 d
theorem S4_below {B : Nat} {w W : World} (h : Below B w W) {k : Nat} (hk : B ≤ k) (a b c d : Value) : Below B w (S4 W k a b c d) :=
  (((h.setCell (p := ⟨k, 0, none⟩) hk a).setCell (p := ⟨k, 1, none⟩) hk b).setCell (p := ⟨k, 2, none⟩) hk c).setCell (p := ⟨k, 3, none⟩) hk d
theorem S4_other {W : World} {j k : Nat} {o : Obj} (h : W.heap[j]? = some o) (hn : j ≠ k) (a b c d : Value) : (S4 W k a b c d).heap[j]? = some o := by
  have e : ∀ (V : World) (i : Nat) (u : Value), V.heap[j]? = some o → (V.setCell ⟨k, i, none⟩ u).heap[j]? = some o := fun V i u h => (Below.heap_setCell V ⟨k, i, none⟩ u j hn).trans h
  exact e _ _ _ (e _ _ _ (e _ _ _ (e _ _ _ h)))
set_option maxRecDepth 100000 in
set_option maxHeartbeats 8000000 in
theorem ranged_any (s : List UInt8) (w : World) (hT : TabA w) (hs : s.length ≤ 500000) : Calls Tryz.prog 204 #[.string ⟨s.toArray⟩] w (RngR (Ac.one s) w) := by
  obtain ⟨n, hn⟩ : ∃ n, w.heap.size = n := ⟨_, rfl⟩
  obtain ⟨wa, hwa⟩ : ∃ wa, w.alloc (.cells #[.string ⟨#[]⟩, .string ⟨#[]⟩, .int .i64 0, .int .i64 0] 116) = wa := ⟨_, rfl⟩
  have hBa : Below w.heap.size w wa := by rw [← hwa]; exact (Below.refl _ _).alloc (Nat.le_refl _) _
  have ka : Has wa n 116 #[.string ⟨#[]⟩, .string ⟨#[]⟩, .int .i64 0, .int .i64 0] := by rw [← hwa, ← hn]; exact Has.new _ _ _
  have za : wa.heap.size = n + 1 := by rw [← hwa, World.size_alloc, hn]
  obtain ⟨wb, hwb⟩ : ∃ wb, wa.alloc (.cells #[.slice none 0 0] 29) = wb := ⟨_, rfl⟩
  have hBb : Below wa.heap.size wa wb := by rw [← hwb]; exact (Below.refl _ _).alloc (Nat.le_refl _) _
  have kb : Has wb (n + 1) 29 #[.slice none 0 0] := by rw [← hwb, ← za]; exact Has.new _ _ _
  have zb : wb.heap.size = n + 1 + 1 := by rw [← hwb, World.size_alloc, za]
  have ka2 := ka.below hBb ka.lt
  obtain ⟨wc, hwc⟩ : ∃ wc, (wb.alloc (.cells #[.string ⟨s.toArray⟩] 9)).alloc (.cells #[.int .u8 ((59 : UInt8).toNat : Int)] 5) = wc := ⟨_, rfl⟩
  have hp := each_maker s 59 wb
  rw [hwc] at hp
  have hp1 : Has wc (n + 1 + 1) 9 #[.string ⟨s.toArray⟩] := by rw [← hwc, ← zb]; exact (Has.new _ _ _).alloc _
  have hp2 : Has wc (n + 1 + 1 + 1) 5 #[.int .u8 ((59 : UInt8).toNat : Int)] := by
    have := Has.new (wb.alloc (.cells #[.string ⟨s.toArray⟩] 9)) 5 #[.int .u8 ((59 : UInt8).toNat : Int)]
    rw [hwc, World.size_alloc, zb] at this
    exact this
  have hBc : Below wb.heap.size wb wc := by rw [← hwc]; exact ((Below.refl _ _).alloc (Nat.le_refl _) _).alloc (by simp) _
  have zc : wc.heap.size = n + 4 := by rw [← hwc]; simp [zb]
  rw [zb, show ((59 : UInt8).toNat : Int) = 59 from rfl] at hp
  have hBw : Below w.heap.size w wc := (hBa.trans (hBb.mono hBa.size)).trans (hBc.mono (by omega))
  obtain ⟨ps, hps⟩ : ∃ ps, Ac.sp 59 false s = ps := ⟨_, rfl⟩
  obtain ⟨L, hL⟩ : ∃ L, ps.map trimL = L := ⟨_, rfl⟩
  have hone := Ac.one_names s
  rw [hps, show ps.map Ac.trim = L from hL] at hone
  have hll : ps.length = L.length := by rw [← hL, List.length_map]
  have hLl : L.length ≤ 600000 := by have := Ac.sp_len (c := 59) (by decide) false s; rw [hps] at this; omega
  have hLp : 0 < L.length := by rw [← hll, ← hps]; exact List.length_pos_iff.2 (Ac.sp_ne 59 false s)
  have hLe : ∀ p ∈ L, p.length ≤ 500000 := fun p hp => by
    rw [← hL] at hp
    obtain ⟨x, hx, rfl⟩ := List.mem_map.1 hp
    rw [← hps] at hx
    have := Ac.sp_mem (c := 59) (by decide) false s x hx
    have := trimL_len x
    omega
  have hseq := Lib.hid (each1_seq 6 s 59 (by decide) (by omega) (n + 1 + 1) (n + 1 + 1 + 1) wc hp1 hp2)
  rw [hps] at hseq
  have hi0 : PtI n w L (capP (n + 1 + 1) (n + 1 + 1 + 1)) 0 wc := ⟨.slice none 0 0, kb.below hBc kb.lt, by rw [List.take_zero]; exact strs_nil _ _, (fun g hg => by cases hg), (fun k hk => by rcases hk with h | h <;> omega), ⟨by rw [← hn]; exact hBw, ka2.below hBc ka2.lt⟩, by omega⟩
  have hi0' := Lib.hid hi0
  have hp' := Lib.hid hp
  have hT' := Lib.hid hT
  have hL' := Lib.hid hL
  have hLe' := Lib.hid hLe
  have hone' := Lib.hid hone
  have hcapE := Lib.hid (show ∀ k, capP (n + 1 + 1) (n + 1 + 1 + 1) k → k < wc.heap.size from fun k h => by rcases h with h | h <;> omega)
  clear hBa hBb hBc hBw hp hp1 hp2 ka ka2 kb hi0 hT hps hL hLe hone hwc
  refine (callsIn_wide (n := 5)).1 ?_
  refine calls_of_wpK Tryz.func204 rfl ?_
  simp only [Tryz.ntmps204, List.size_toArray, List.length_cons, List.length_nil, Nat.reduceAdd, Nat.reduceSub, Array.replicate_succ, Array.replicate_zero, List.push_toArray, List.append_toArray, List.nil_append, List.cons_append]
  refine wpK_after ?_
  go_wp2
  try rw [hwa]
  refine wpK_after ?_
  go_wp2
  try rw [hwb]
  refine wpK_seq (wpK_after ?_)
  go_wp2_with (go_at_call 214; (with_reducible refine Calls.mono hp'.out ?_); rintro e w3 ⟨rfl, hw3⟩; obtain rfl := hw3.symm)
  refine wpK_block ?_
  refine wpK_range (n := 5) (gf := 222) (lb := #[.pointer (some ⟨n + 1 + 1, 0, none⟩), .pointer (some ⟨n + 1 + 1 + 1, 0, none⟩)]) rfl (enters_of Tryz.func222 (by kernel_rfl) rfl)
    hseq.out (Below.refl _ _) hcapE.out (fun _ => rfl) (PtI n w L) (fun _ _ _ _ => False) [] (fun _ _ => False)
    (fun U U' j X Y h ht => ptI_turn h ht) (fun _ _ _ _ _ _ h _ => h) (fun _ _ _ _ h _ => h) hi0'.out ?a1 ?assign ?body ?done (fun _ _ _ _ _ _ _ _ _ _ _ h _ => h.elim) (fun _ _ _ _ _ _ _ h _ => h.elim)
  case assign =>
    intro l2 x V K hK
    have hK' := Lib.hid hK
    clear hK
    dsimp only [encEa]
    gi_wp2
    exact hK'.out
  case body =>
    rintro l2 U j V hUl ⟨v, h1, h2, h3, h4, h5, h6⟩ hj
    obtain ⟨p, hpj⟩ : ∃ p, trimL (ps[j]?.getD []) = p := ⟨_, rfl⟩
    have hjL : j < L.length := by omega
    have hpd : L[j] = p := by
      have e : L[j]? = some p := by rw [← hL'.out, List.getElem?_map, List.getElem?_eq_getElem hj, ← hpj, List.getElem?_eq_getElem hj]; rfl
      rw [List.getElem?_eq_getElem hjL] at e
      exact Option.some.inj e
    try rw [hpj]
    have hnx := Lib.hid (show L.take (j + 1) = L.take j ++ [p] by rw [List.take_succ_eq_append_getElem hjL, hpd])
    have c0 := fun (u : Value) (t : TypeId) => (h1.alloc (.cells #[u] t)).cell 0
    have d0 := h1.cell 0
    have hst := Lib.hid (h2.below ((Below.refl V.heap.size V).alloc (Nat.le_refl _) (.cells #[.string ⟨p.toArray⟩] 9)))
    have hnew := Lib.hid (Has.new V 9 #[.string ⟨p.toArray⟩])
    have htl := Lib.hid (show (L.take j).length + 1 ≤ 2000000 by rw [List.length_take]; omega)
    have hgl := Lib.hid (show ∀ g, v.ownBlock = some g → g < V.heap.size from fun g hg => by obtain ⟨_, cs, hc⟩ := h2.own g hg; exact hc.lt)
    have h1a := h1.alloc (.cells #[.string ⟨p.toArray⟩] 9)
    have hgn := Lib.hid (show ∀ g, v.ownBlock = some g → n + 1 ≠ g from fun g hg e => by
      obtain ⟨_, cs, hc⟩ := h2.own g hg
      subst e
      have e1 : V.heap[n + 1]? = some (.cells _ _ (0, 0)) := h1
      have e2 : V.heap[n + 1]? = some (.cells cs 9 (0, 0)) := hc
      rw [e1] at e2
      injection e2 with e2
      injection e2 with _ e2 _
      exact absurd e2 (by decide))
    have h1' := Lib.hid h1a
    have h3' := Lib.hid h3
    have h4' := Lib.hid h4
    have h5' := Lib.hid h5
    have hUl' := Lib.hid hUl
    clear h1 h2 h3 h4 h5 hUl hpj hpd c0 h1a
    gi_wp2_with (refine strsIn_append (v := v) rfl _ _ rfl rfl hst.out V.heap.size p rfl hnew.out htl.out (by rw [World.size_alloc]; omega) ?_; intro v6 w6 hS6 hg6 ho6; have k6 : Has w6 (n + 1) 29 #[v] := (hg6.block _ h1'.out.lt (fun e => hgn.out _ e.symm rfl)).trans h1'.out; have d6 := k6.cell 0; have f6 := k6.free 0; have k6' := Lib.hid k6; obtain ⟨A6, g6, c6, cur6, hv6, -⟩ := hS6.shape; subst hv6; have hS6' := Lib.hid hS6; have hg6' := Lib.hid hg6; have ho6' := Lib.hid ho6; clear k6 hS6 hg6 ho6; obtain ⟨m6, hm6⟩ : ∃ m, (L.take j ++ [p]).length = m := ⟨_, rfl⟩; rw [hm6] at hS6' ho6' ⊢; clear hm6)
    have hS := hS6'.out
    have hgr := hg6'.out
    have hz : V.heap.size + 1 ≤ w6.heap.size := by have := hgr.size; rw [World.size_alloc] at this; exact this
    have hKA : KeptU U V (V.alloc (.cells #[.string ⟨p.toArray⟩] 9)) := KeptU.alloc ⟨Nat.le_refl _, fun _ _ => rfl⟩ hUl'.out _
    have hK6 : KeptU U V w6 := hKA.grown (fun k hk => by have := hUl'.out k hk; rw [World.size_alloc]; omega) hgr (fun g hg => h3'.out g hg)
    have n1 : ¬ U (n + 1) := fun h => by have := h4'.out _ h; omega
    have hB6 : Below n V w6 := by
      have e := (Below.refl n V).alloc (by omega) (.cells #[.string ⟨p.toArray⟩] 9)
      exact ⟨hgr.os.trans e.os, hgr.tape.trans e.tape, hgr.output.trans e.output, Nat.le_trans e.size hgr.size, fun k hk => (hgr.block k (by rw [World.size_alloc]; omega) (fun e => by
        rcases hst.out.own k e.symm with ⟨hnk, _⟩; omega)).trans (e.block k hk)⟩
    have kn : Has w6 n 116 #[.string ⟨#[]⟩, .string ⟨#[]⟩, .int .i64 0, .int .i64 0] := by
      have h := h5'.out.h.alloc (.cells #[.string ⟨p.toArray⟩] 9)
      exact (hgr.block n h.lt (fun e => by
        obtain ⟨_, cs, hc⟩ := hst.out.own n e.symm
        have e1 : _ = some (Obj.cells _ _ (0, 0)) := h
        have e2 : _ = some (Obj.cells cs 9 (0, 0)) := hc
        rw [e1] at e2
        injection e2 with e2
        injection e2 with _ e2 _
        exact absurd e2 (by decide))).trans h
    refine ⟨hK6.set (p := ⟨n + 1, 0, none⟩) n1 _, .slice A6 m6 c6, ?_, ?_, ?_, h4'.out, ⟨?_, ?_⟩, by simp [World.setCell]; omega⟩
    · have := k6'.out.put 0 (.slice A6 m6 c6)
      simpa using this
    · rw [hnx.out]
      refine strs_kept hS (fun g hg => Below.heap_setCell _ _ _ g (fun e => ?_))
      obtain ⟨_, cs, hc⟩ := hS.own g hg
      obtain rfl : g = n + 1 := e
      have e1 : w6.heap[n + 1]? = some (.cells _ _ (0, 0)) := k6'.out
      have e2 : w6.heap[n + 1]? = some (.cells cs 9 (0, 0)) := hc
      rw [e1] at e2
      injection e2 with e2
      injection e2 with _ e2 _
      exact absurd e2 (by decide)
    · intro g hg
      rcases ho6'.out with h | h
      · exact h3'.out g (h.symm.trans hg)
      · rw [hg] at h
        have := Option.some.inj h
        intro hu
        have := hUl'.out g hu
        rw [World.size_alloc] at *
        omega
    · exact (h5'.out.b.trans hB6).setCell (p := ⟨n + 1, 0, none⟩) (by show n ≤ n + 1; omega) _
    · exact (Below.heap_setCell w6 ⟨n + 1, 0, none⟩ _ n (by show n ≠ n + 1; omega)).trans kn
  case done =>
    rintro U d W hd hUd hU1 hU2 hUl ⟨v, h1, h2, h3, h4, h5, h6⟩ hk
    rw [List.take_of_length_le (by omega)] at h2
    obtain ⟨g, c, rfl, hlc, hcm, hgB, hgl, hcs⟩ := strs_txB h2 (Nat.le_refl _) hLp
    obtain ⟨h0, r, hLr⟩ : ∃ h r, L = h :: r := by
      clear hi0' hseq hL' hLe' hone' hll hLl h2 hcs
      cases L with
      | nil => exact absurd hLp (by simp)
      | cons a b => exact ⟨a, b, rfl⟩
    obtain ⟨k, hkz⟩ : ∃ k, W.heap.size = k := ⟨_, rfl⟩
    obtain ⟨Wz, hWz⟩ : ∃ Wz, W.alloc (.cells #[.string ⟨#[]⟩, .string ⟨#[]⟩, .int .i64 0, .int .i64 0, .bool false] 244) = Wz := ⟨_, rfl⟩
    have kz : Has Wz k 244 #[.string ⟨#[]⟩, .string ⟨#[]⟩, .int .i64 0, .int .i64 0, .bool false] := by rw [← hWz, ← hkz]; exact Has.new _ _ _
    have hBz : Below k W Wz := by rw [← hWz, ← hkz]; exact (Below.refl _ _).alloc (Nat.le_refl _) _
    have y0 := kz.cell 0
    have y1 := kz.cell 1
    have y2 := kz.cell 2
    have y3 := kz.cell 3
    have y4 := kz.cell 4
    have g0 := kz.free 0
    have g1 := kz.free 1
    have g2 := kz.free 2
    have g3 := kz.free 3
    have g4 := kz.free 4
    obtain ⟨W5, hW5⟩ : ∃ W5, S5 Wz k (.string ⟨#[]⟩) (.string ⟨#[]⟩) (.int .i64 0) (.int .i64 1000) (.bool false) = W5 := ⟨_, rfl⟩
    have hB5 : Below k W W5 := by rw [← hW5]; exact S5_below hBz (Nat.le_refl _) _ _ _ _ _
    have r5 : RdR W5 k [] [] 0 1000 false := by rw [← hW5]; exact S5_has kz _ _ _ _ _
    have b5 : Has W5 (n + 1) 29 _ := h1.below hB5 (by have := h1.lt; omega)
    have c5 := b5.cell 0
    have hx5 : TxB W5 k (some ⟨g, 0, none⟩) L := fun _ => ⟨g, 0, rfl, by omega, Nat.lt_of_lt_of_le hgl hB5.size, fun i x hx => by rw [Nat.zero_add]; exact (World.cell?_of_block (hB5.block g (by omega))).trans (hcs i x hx)⟩
    have s0 : W5.cell? ⟨g, 0, none⟩ = some (.string ⟨h0.toArray⟩) := (World.cell?_of_block (hB5.block g (by omega))).trans (hcs 0 h0 (by rw [hLr]; rfl))
    show wpK _ _ _ _ _
    refine wpK_of ?_
    go_upto_region 6 with (fail)
    have hpP : Ac.parsS 0 1000 false r = Ac.pars 0 r := by unfold Ac.parsS; simp
    have hone1 : Ac.one s = (Ac.names h0).bind fun n => (Ac.parsS 0 1000 false r).map fun x => ⟨n.1, n.2, x.1, x.2⟩ := by rw [hone'.out, hLr, hpP]
    have hT5 : TabA W5 := hT'.out.below (by rw [hn]; exact h5.b.trans (hB5.mono (by omega)))
    have hTk : 0 < k := by obtain ⟨m, hm⟩ := hT'.out; have := hm.lt; omega
    have hl0 := hLe'.out h0 (by rw [hLr]; exact List.mem_cons_self)
    have hNp : ∀ (W6 : World) (o : Obj), Below k W5 W6 → Below w.heap.size w (W6.putObj d o) := fun W6 o hb => by
      rw [hn]
      have := (h5.b.trans (hB5.mono (by omega))).trans (hb.mono (by omega))
      exact ⟨this.os, this.tape, this.output, by have := this.size; simpa [World.putObj] using this, fun i hi => (World.putObj_heap_other (by omega)).trans (this.block i hi)⟩
    have hNk : ∀ (W6 : World), Below k W5 W6 → NoCalls W6 d := fun W6 hb => (hk.below hB5 (by have := hk.lt; omega)).below hb (by have := hk.lt; omega)
    have hNp' := Lib.hid hNp
    have hNk' := Lib.hid hNk
    have h5n := h5.h.below hB5 (by have := h5.h.lt; omega)
    have hLr' := Lib.hid hLr
    have hx5' := Lib.hid hx5
    have b5' := Lib.hid b5
    have h5n' := Lib.hid h5n
    have hT5' := Lib.hid hT5
    have hdk : d < k := by have := hk.lt; omega
    have hlen : L.length = r.length + 1 := by rw [hLr]; rfl
    obtain ⟨ox, hox⟩ : ∃ ox, Ac.names h0 = ox := ⟨_, rfl⟩
    cases ox with
    | none =>
      have hno := Lib.hid (show Ac.one s = none by rw [hone1, hox]; rfl)
      have hnm := names_no h0 k 0 1000 false W5 hT5 (by omega) r5 hox
      unfold NamesR at hnm
      simp only at hnm
      have hnm' := Lib.hid hnm
      clear hnm hone1 hox hpP r5 hT5 hNp hNk h5 h5n hx5 b5 hB5 hBz h1 h2 h3 h4 hk hUl hU1 hU2 hUd kz y0 y1 y2 y3 y4 g0 g1 g2 g3 g4 hW5 hLr hcs
      go_wp2_with (go_at_call 215; (with_reducible refine Calls.mono hnm'.out ?_); rintro e w6 ⟨rfl, hb6⟩; have hb6' := Lib.hid hb6; clear hb6)
      refine ⟨by simp, .inl ⟨_, _, rfl, run_takeDeferred (hNk'.out _ hb6'.out), ?_⟩⟩
      exact rngR_no hno.out (hNp'.out _ _ hb6'.out)
    | some x =>
      have hnm := names_yes h0 k 0 1000 false W5 hT5 (by omega) r5 x hox
      unfold NamesR at hnm
      simp only at hnm
      have hnm' := Lib.hid hnm
      have hone2 : Ac.one s = (Ac.parsS 0 1000 false r).map fun y => ⟨x.1, x.2, y.1, y.2⟩ := by rw [hone1, hox]; rfl
      have hone2' := Lib.hid hone2
      have hrl : ∀ p ∈ r, p.length ≤ 1000000 := fun p hp => by have := hLe'.out p (by rw [hLr]; exact List.mem_cons_of_mem _ hp); omega
      have hrl' := Lib.hid hrl
      have hlI : (1 : Int) ≤ (L.length : Int) := by omega
      have hlcI : (L.length : Int) ≤ (c : Int) := by omega
      have hcmI : (c : Int) ≤ 9223372036854775807 := by have := hcm; simp only [maxLen] at this; omega
      clear hnm hone1 hone2 hox hpP r5 hT5 hNp hNk h5 h5n hx5 b5 hB5 hBz h1 h2 h3 h4 hk hUl hU1 hU2 hUd kz y0 y1 y2 y3 y4 g0 g1 g2 g3 g4 hW5 hLr hcs hrl
      go_upto_region 7 with (go_at_call 215; (with_reducible refine Calls.mono hnm'.out ?_); rintro e w6 ⟨⟨rfl, hr6⟩, hb6⟩; have b6 := b5'.out.below hb6 (by omega); have c6 := b6.cell 0; have hr6' := Lib.hid hr6; have hb6' := Lib.hid hb6; clear hb6 hr6 b6)
      have hpa := fun (A : Option Addr) (c' : Nat) (hx : TxB w6 k A r) => params_any k x.1 x.2 A c' r w6 (by
        obtain ⟨m, hm⟩ := hT5'.out
        exact ⟨m, (hb6'.out.block _ hTk).trans hm⟩) hTk hr6'.out hx (by omega) hrl'.out
      have hxr : TxB w6 k (some ⟨g, 1, none⟩) r := fun h => by
        obtain ⟨b', o', e1, q1, q2, q3⟩ := (hx5'.out.below hb6'.out) (by omega)
        injection e1 with e1
        injection e1 with e1 e2' _
        subst e1; subst e2'
        refine ⟨g, 1, rfl, q1, q2, fun i y hy => ?_⟩
        have := q3 (i + 1) y (by rw [hLr'.out, List.getElem?_cons_succ]; exact hy)
        rwa [Nat.zero_add, Nat.add_comm] at this
      have hpa' := Lib.hid hpa
      have hxr' := Lib.hid hxr
      clear hpa hxr
      unfold ParsR at hpa'
      have h5n6 := Lib.hid (h5n'.out.below hb6'.out (by omega))
      obtain ⟨op, hop⟩ : ∃ op, Ac.parsS 0 1000 false r = op := ⟨_, rfl⟩
      rw [hop] at hpa'
      have hop' := Lib.hid hop
      clear hop
      have hc1 : (c = 1 ∧ Hid (TxB w6 k (some ⟨g, 0, none⟩) r)) ∨ (¬ c = 1 ∧ Hid (TxB w6 k (some ⟨g, 1, none⟩) r)) := by
        by_cases h : c = 1
        · exact .inl ⟨h, Lib.hid (fun h' => by omega)⟩
        · exact .inr ⟨h, hxr'⟩
      cases op with
      | none =>
        have hno := Lib.hid (show Ac.one s = none by rw [hone2'.out, hop'.out]; rfl)
        rcases hc1 with ⟨hc1, hxA⟩ | ⟨hc1, hxA⟩
        all_goals
          go_wp2_with (go_at_call 216; (with_reducible refine Calls.mono (hpa'.out _ _ hxA.out) ?_); rintro e w7 ⟨rfl, hb7⟩; have hb7' := Lib.hid (hb6'.out.trans hb7); clear hb7)
          refine ⟨by simp, .inl ⟨_, _, rfl, run_takeDeferred (hNk'.out _ hb7'.out), ?_⟩⟩
          exact rngR_no hno.out (hNp'.out _ _ hb7'.out)
      | some y =>
        have hyes := Lib.hid (show Ac.one s = some ⟨x.1, x.2, y.1, y.2⟩ by rw [hone2'.out, hop'.out]; rfl)
        rcases hc1 with ⟨hc1, hxA⟩ | ⟨hc1, hxA⟩
        all_goals
          go_upto_region 8 with (go_at_call 216; (with_reducible refine Calls.mono (hpa'.out _ _ hxA.out) ?_); rintro e w7 ⟨⟨rfl, wd, hr7⟩, hb7⟩; have hb7' := Lib.hid (hb6'.out.trans hb7); have kn := h5n6.out.below hb7 (by omega); have r0 := Has.cell hr7 0; have r1 := Has.cell hr7 1; have r2 := Has.cell hr7 2; have r3 := Has.cell hr7 3; have m0 := kn.cell 0; have m1 := kn.cell 1; have m2 := kn.cell 2; have m3 := kn.cell 3; have q0 := kn.free 0; have q1 := kn.free 1; have q2 := kn.free 2; have q3 := kn.free 3; have kn' := Lib.hid kn; clear hb7 kn hr7)
          have hk7 := hNk'.out _ hb7'.out
          have hdn : d ≠ n := by omega
          have hk8 : NoCalls (S4 w7 n (.string ⟨x.1.toArray⟩) (.string ⟨x.2.toArray⟩) (.int .i64 (y.1 : Int)) (.int .i64 (y.2 : Int))) d := S4_other hk7 hdn _ _ _ _
          have k8 := S4_has kn'.out (.string ⟨x.1.toArray⟩) (.string ⟨x.2.toArray⟩) (.int .i64 (y.1 : Int)) (.int .i64 (y.2 : Int))
          have hB8 : Below w.heap.size w ((S4 w7 n (.string ⟨x.1.toArray⟩) (.string ⟨x.2.toArray⟩) (.int .i64 (y.1 : Int)) (.int .i64 (y.2 : Int))).putObj d (.deferred none)) := by
            have hp7 := hNp'.out w7 (.deferred none) hb7'.out
            have hw7 : Below n w w7 := by
              rw [hn] at hp7
              exact ⟨hp7.os, hp7.tape, hp7.output, by have := hp7.size; simpa [World.putObj] using this, fun i hi => (World.putObj_heap_other (by omega)).symm.trans (hp7.block i hi)⟩
            have h8 := S4_below hw7 (Nat.le_refl n) (.string ⟨x.1.toArray⟩) (.string ⟨x.2.toArray⟩) (.int .i64 (y.1 : Int)) (.int .i64 (y.2 : Int))
            rw [hn]
            exact ⟨h8.os, h8.tape, h8.output, by have := h8.size; simpa [World.putObj] using this, fun i hi => (World.putObj_heap_other (by omega)).trans (h8.block i hi)⟩
          have k9 := k8.put_obj (.deferred none) hdn.symm
          have hk8' := Lib.hid hk8
          have hB8' := Lib.hid hB8
          have k9' := Lib.hid k9
          clear hk8 hB8 k9 k8 hk7
          go_wp2
          refine ⟨by simp, .inl ⟨_, _, rfl, run_takeDeferred hk8'.out, ?_⟩⟩
          have z0 := k9'.out.cell 0
          have z1 := k9'.out.cell 1
          have z2 := k9'.out.cell 2
          have z3 := k9'.out.cell 3
          refine ⟨.agg (rgC ⟨x.1, x.2, y.1, y.2⟩).toArray, ?_, rngR_yes hyes.out hB8'.out⟩
          simp [results, Tryz.results204, go_sem, z0, z1, z2, z3, rgC]
end Go.Proofs.YtbmemkbfignlaaaGreatDoor

namespace Go.Proofs.YtbmemkbfignlaaaGreatDoor
open Go.RowKit Go.Shelf
attribute [local go_sem] Oper.semAt_some
attribute [local go_sem] wideF_fn wideF_depth wideF_round

/-! ## A list's round: a range is read and put behind the others, in whatever order -/
def rdO0 : Oper := { dst := some 13, op := Op.load 111 (Operand.tmp 3), type := 111, pos := "reader.go:47", after := #[], guard := none }
def rdO1 : Oper := { dst := some 14, op := Op.move (Operand.tmp 5), type := 9, pos := "reader.go:47", after := #[], guard := none }
def rdO2 : Oper := { dst := some 15, op := Op.call { callee := Callee.value (Operand.func 204), args := #[Operand.tmp 14], argTypes := #[9] }, type := 116, pos := "reader.go:47", after := #[{ on := 1, ground := Ground.data }], guard := none }
def rdO3 : Oper := { dst := some 16, op := Op.buildSlice 111 1 #[(0, Operand.tmp 15)], type := 111, pos := "reader.go:47", after := #[{ on := 2, ground := Ground.data }], guard := none }
def rdO4 : Oper := { dst := some 17, op := Op.call { callee := Callee.builtin Builtin.append, args := #[Operand.tmp 13, Operand.tmp 16], argTypes := #[111, 111] }, type := 111, pos := "reader.go:47", after := #[{ on := 0, ground := Ground.data }, { on := 3, ground := Ground.data }, { on := 2, ground := Ground.chain }], guard := none }
def rdO5 : Oper := { dst := none, op := Op.store 111 (Operand.tmp 3) (Operand.tmp 17), type := 0, pos := "reader.go:47", after := #[{ on := 4, ground := Ground.data }, { on := 4, ground := Ground.chain }, { on := 0, ground := Ground.phase }, { on := 1, ground := Ground.phase }, { on := 2, ground := Ground.phase }, { on := 3, ground := Ground.phase }, { on := 4, ground := Ground.phase }], guard := none }
def rdOps : Array Oper := #[rdO0, rdO1, rdO2, rdO3, rdO4, rdO5]
def rdAct (x0 x1 x2 x4 x6 x7 x8 x9 x10 x11 x12 x18 : Value) (b : Nat) (p : List UInt8) (t13 t14 t15 t16 t17 : Value) : Act := { tmps := #[x0, x1, x2, .pointer (some ⟨b, 0, none⟩), x4, .string ⟨p.toArray⟩, x6, x7, x8, x9, x10, x11, x12, t13, t14, t15, t16, t17, x18], defers := [] }
section
variable {l2 n : Nat} {Q : Exit → Act → World → Prop} {x0 x1 x2 x4 x6 x7 x8 x9 x10 x11 x12 x18 : Value} {b : Nat} {p : List UInt8} {t13 t14 t15 t16 t17 : Value} {V : World} {K : Act → World → Prop}
theorem rd_op0 {v : Value} (hc : V.cell? ⟨b, 0, none⟩ = some v) (hK : K (rdAct x0 x1 x2 x4 x6 x7 x8 x9 x10 x11 x12 x18 b p v t14 t15 t16 t17) V) : wpOpIn (Fence.wide.inRound l2) n Tryz.prog rdOps Q 0 K (rdAct x0 x1 x2 x4 x6 x7 x8 x9 x10 x11 x12 x18 b p t13 t14 t15 t16 t17) V := by
  refine wpOpIn_step (o := rdO0) rfl fun K' hK' => ?_
  have hK2 := hK' _ _ hK
  clear hK hK'
  unfold rdAct at hK2 ⊢
  simp [rdO0, Region.wanted, Oper.wpIn, execOp, go_sem, hc]
  exact hK2
theorem rd_op1 (hK : K (rdAct x0 x1 x2 x4 x6 x7 x8 x9 x10 x11 x12 x18 b p t13 (.string ⟨p.toArray⟩) t15 t16 t17) V) : wpOpIn (Fence.wide.inRound l2) n Tryz.prog rdOps Q 1 K (rdAct x0 x1 x2 x4 x6 x7 x8 x9 x10 x11 x12 x18 b p t13 t14 t15 t16 t17) V := by
  refine wpOpIn_step (o := rdO1) rfl fun K' hK' => ?_
  have hK2 := hK' _ _ hK
  clear hK hK'
  unfold rdAct at hK2 ⊢
  simp [rdO1, Region.wanted, Oper.wpIn, execOp, go_sem]
  exact hK2
theorem rd_op2 (h : CallsIn (Fence.wide.inRound l2) (n - 1) Tryz.prog 204 #[.string ⟨p.toArray⟩] V fun e V' => (∃ u, e = .returned u ∧ K (rdAct x0 x1 x2 x4 x6 x7 x8 x9 x10 x11 x12 x18 b p t13 (.string ⟨p.toArray⟩) u t16 t17) V') ∨ (∃ ch, e = .panicked ch ∧ ∀ a, a.defers = [] → Q (.panic ch) a V')) : wpOpIn (Fence.wide.inRound l2) n Tryz.prog rdOps Q 2 K (rdAct x0 x1 x2 x4 x6 x7 x8 x9 x10 x11 x12 x18 b p t13 (.string ⟨p.toArray⟩) t15 t16 t17) V := by
  refine wpOpIn_step (o := rdO2) rfl fun K' hK' => ?_
  have hen := enters_of Tryz.func204 (by kernel_rfl) rfl
  have h' := Lib.hid h
  clear h
  simp [rdO2, Region.wanted, Oper.wpIn, execOp, go_sem, rdAct, hen]
  refine h'.out.mono ?_
  rintro e V' (⟨u, rfl, hk⟩ | ⟨ch, rfl, hq⟩)
  · have := hK' _ _ hk
    unfold rdAct at this
    exact this
  · exact hq _ rfl
theorem rd_op3 {r : Ac.Rg} (hK : K (rdAct x0 x1 x2 x4 x6 x7 x8 x9 x10 x11 x12 x18 b p t13 t14 (.agg (rgC r).toArray) (.slice (some ⟨V.heap.size, 0, none⟩) 1 1) t17) (V.alloc (.cells (rgC r).toArray 116))) : wpOpIn (Fence.wide.inRound l2) n Tryz.prog rdOps Q 3 K (rdAct x0 x1 x2 x4 x6 x7 x8 x9 x10 x11 x12 x18 b p t13 t14 (.agg (rgC r).toArray) t16 t17) V := by
  refine wpOpIn_step (o := rdO3) rfl fun K' hK' => ?_
  have hK2 := hK' _ _ hK
  clear hK hK'
  unfold rdAct rgC at hK2 ⊢
  simp [rdO3, Region.wanted, Oper.wpIn, execOp, go_sem]
  exact hK2
theorem rgO_shape {W : World} {n0 : Nat} {v : Value} {l : List Ac.Rg} (h : RgO W n0 v l) : ∃ A m c, v = .slice A m c := by
  rcases h.2 with ⟨rfl, _⟩ | ⟨g, cap, cur, rfl, _⟩
  · exact ⟨_, _, _, rfl⟩
  · exact ⟨_, _, _, rfl⟩
theorem rd_op4 {n0 kb : Nat} {v : Value} {r : Ac.Rg} {done : List Ac.Rg} (hv : RgO V n0 v done) (hx : Has V kb 116 (rgC r).toArray) (hs : done.length + 1 ≤ 2000000) (hn : n0 ≤ V.heap.size)
    (hK : ∀ A m c V', RgO V' n0 (.slice A m c) (done ++ [r]) → V.grownBy V' v.ownBlock → ((Value.slice A m c).ownBlock = v.ownBlock ∨ (Value.slice A m c).ownBlock = some V.heap.size) → K (rdAct x0 x1 x2 x4 x6 x7 x8 x9 x10 x11 x12 x18 b p v t14 t15 (.slice (some ⟨kb, 0, none⟩) 1 1) (.slice A m c)) V') :
    wpOpIn (Fence.wide.inRound l2) n Tryz.prog rdOps Q 4 K (rdAct x0 x1 x2 x4 x6 x7 x8 x9 x10 x11 x12 x18 b p v t14 t15 (.slice (some ⟨kb, 0, none⟩) 1 1) t17) V := by
  obtain ⟨i, hi, hz, hz1, hz2⟩ := info_range
  obtain ⟨v', w', hrun, r1, r2, _, r3⟩ := run_append_own_at (P := Tryz.prog) V n0 111 111 116 i _ 4 48 Tryz.underlying111 hi hz hz1 hz2 rfl (by decide) v done.length (rgsC done) hv ⟨kb, 0, none⟩ 1 1 (rgsC [r]) rfl (fun j u hu => by
    rw [addr0, hx.cell]
    simpa [rgsC] using hu) (rgsC_one _) (by simp only [maxLen]; omega) (by omega) hn
  have hR : RgO w' n0 v' (done ++ [r]) := by
    unfold RgO
    rw [List.length_append, List.length_singleton, rgsC_append]
    exact r1
  obtain ⟨A, m, c, rfl⟩ := rgO_shape hR
  refine wpOpIn_step (o := rdO4) rfl fun K' hK' => ?_
  have hK2 := hK' _ _ (hK A m c w' hR r2 r3)
  clear hK hK' hv hx r1 r2 r3 hR hi
  have hs : (rdAct x0 x1 x2 x4 x6 x7 x8 x9 x10 x11 x12 x18 b p v t14 t15 (.slice (some ⟨kb, 0, none⟩) 1 1) t17).eval (Operand.tmp 13) = v := rfl
  have hx : (rdAct x0 x1 x2 x4 x6 x7 x8 x9 x10 x11 x12 x18 b p v t14 t15 (.slice (some ⟨kb, 0, none⟩) 1 1) t17).eval (Operand.tmp 16) = .slice (some ⟨kb, 0, none⟩) 1 1 := rfl
  rw [if_pos (by rfl)]
  unfold Oper.wpIn
  refine ⟨?_, ?_⟩
  · simp [Oper.about, rdO4, resolve, Target.leads, Sem.run_pure]
  · rw [Oper.semAt_plain (Fence.wide.inRound l2) _ _ (by intro c hc'; cases hc')]
    simp [execOp, rdO4, resolve, invoke, builtin, hs, hx, hrun, Result.andThen]
    exact hK2
theorem rd_op5 {A : Option Addr} {m c : Nat} {v : Value} (hb : Has V b 111 #[v]) (hK : K (rdAct x0 x1 x2 x4 x6 x7 x8 x9 x10 x11 x12 x18 b p t13 t14 t15 t16 (.slice A m c)) (V.setCell ⟨b, 0, none⟩ (.slice A m c))) :
    wpOpIn (Fence.wide.inRound l2) n Tryz.prog rdOps Q 5 K (rdAct x0 x1 x2 x4 x6 x7 x8 x9 x10 x11 x12 x18 b p t13 t14 t15 t16 (.slice A m c)) V := by
  refine wpOpIn_step (o := rdO5) rfl fun K' hK' => ?_
  have hK2 := hK' _ _ hK
  have c0 := hb.cell 0
  have f0 := hb.free 0
  clear hK hK' hb
  unfold rdAct at hK2 ⊢
  simp [rdO5, Region.wanted, Oper.wpIn, execOp, go_sem, c0, f0]
  exact hK2
end
/-- What the region must have at hand: the list so far, its box; what is read next. -/
structure RdH (b n0 : Nat) (v : Value) (done : List Ac.Rg) (W0 : World) : Prop where
  box : Has W0 b 111 #[v]
  row : RgO W0 n0 v done
  few : done.length + 1 ≤ 2000000
  low : n0 ≤ W0.heap.size
theorem RdH.below {b n0 : Nat} {v : Value} {done : List Ac.Rg} {W V : World} (h : RdH b n0 v done W) (hb : Below W.heap.size W V) : RdH b n0 v done V := ⟨h.box.below hb h.box.lt, h.row.below hb, h.few, Nat.le_trans h.low hb.size⟩
section
variable {l2 n : Nat} {Q : Exit → Act → World → Prop} {x0 x1 x2 x4 x6 x7 x8 x9 x10 x11 x12 x18 : Value} {b n0 : Nat} {p : List UInt8} {v : Value} {done : List Ac.Rg} {W0 : World}
/-- What the round comes to, where a range is read. -/
def RdFin (Q : Exit → Act → World → Prop) (b n0 : Nat) (v : Value) (done : List Ac.Rg) (W0 : World) (r : Ac.Rg) : Prop :=
  ∀ (a : Act) (V1 V4 : World) (A : Option Addr) (m c : Nat), a.defers = [] → Below W0.heap.size W0 V1 → RgO V4 n0 (.slice A m c) (done ++ [r]) → (V1.alloc (.cells (rgC r).toArray 116)).grownBy V4 v.ownBlock →
    ((Value.slice A m c).ownBlock = v.ownBlock ∨ (Value.slice A m c).ownBlock = some (V1.heap.size + 1)) → Has V4 b 111 #[v] → Q .normal a (V4.setCell ⟨b, 0, none⟩ (.slice A m c))
theorem rd_tail4 {r : Ac.Rg} {listed : Array Bool} {t14 t15 t17 : Value} {V1 : World} (h4 : Region.ready .any rdOps listed = [4]) (h5 : Region.ready .any rdOps (listed.setIfInBounds 4 true) = [5]) (h6 : Region.ready .any rdOps ((listed.setIfInBounds 4 true).setIfInBounds 5 true) = [])
    (hH : RdH b n0 v done W0) (hb : Below W0.heap.size W0 V1) (hf : RdFin Q b n0 v done W0 r) :
    wpAnyIn (Fence.wide.inRound l2) n Tryz.prog .any rdOps Q 2 listed (rdAct x0 x1 x2 x4 x6 x7 x8 x9 x10 x11 x12 x18 b p v t14 t15 (.slice (some ⟨V1.heap.size, 0, none⟩) 1 1) t17) (V1.alloc (.cells (rgC r).toArray 116)) := by
  have hH1 := hH.below hb
  have hH2 := hH1.below ((Below.refl V1.heap.size V1).alloc (Nat.le_refl _) (.cells (rgC r).toArray 116))
  refine wpAnyIn_all h4 (by simp) fun i hi => ?_
  obtain rfl : i = 4 := by simpa using hi
  refine rd_op4 hH2.row (Has.new _ _ _) hH2.few hH2.low fun A m c V4 q1 q2 q3 => ?_
  have hbx : Has V4 b 111 #[v] := (q2.block b hH2.box.lt (fun e => by
    obtain ⟨_, cs, hc⟩ := hH2.row.own b e.symm
    have e1 : _ = some (Obj.cells _ _ (0, 0)) := hH2.box
    have e2 : _ = some (Obj.cells cs 116 (0, 0)) := hc
    rw [e1] at e2
    injection e2 with e2
    injection e2 with _ e2 _
    exact absurd e2 (by decide))).trans hH2.box
  refine wpAnyIn_all h5 (by simp) fun i hi => ?_
  obtain rfl : i = 5 := by simpa using hi
  refine rd_op5 hbx ?_
  refine wpAnyIn_done h6 ?_ _
  exact hf _ V1 V4 A m c rfl hb q1 q2 (by rw [World.size_alloc] at q3; exact q3) hbx
theorem rd_tail3 {r : Ac.Rg} {listed : Array Bool} {t14 t16 t17 : Value} {V1 : World} (h3 : Region.ready .any rdOps listed = [3]) (h4 : Region.ready .any rdOps (listed.setIfInBounds 3 true) = [4]) (h5 : Region.ready .any rdOps ((listed.setIfInBounds 3 true).setIfInBounds 4 true) = [5]) (h6 : Region.ready .any rdOps (((listed.setIfInBounds 3 true).setIfInBounds 4 true).setIfInBounds 5 true) = [])
    (hH : RdH b n0 v done W0) (hb : Below W0.heap.size W0 V1) (hf : RdFin Q b n0 v done W0 r) :
    wpAnyIn (Fence.wide.inRound l2) n Tryz.prog .any rdOps Q 3 listed (rdAct x0 x1 x2 x4 x6 x7 x8 x9 x10 x11 x12 x18 b p v t14 (.agg (rgC r).toArray) t16 t17) V1 := by
  refine wpAnyIn_all h3 (by simp) fun i hi => ?_
  obtain rfl : i = 3 := by simpa using hi
  exact rd_op3 (rd_tail4 h4 h5 h6 hH hb hf)
/-- What the call must come to. -/
def RdCall (l2 n : Nat) (Q : Exit → Act → World → Prop) (b n0 : Nat) (p : List UInt8) (v : Value) (done : List Ac.Rg) (W0 : World) : Prop :=
  CallsIn (Fence.wide.inRound l2) (n - 1) Tryz.prog 204 #[.string ⟨p.toArray⟩] W0 fun e V => Below W0.heap.size W0 V ∧ ((∃ r, e = .returned (.agg (rgC r).toArray) ∧ RdFin Q b n0 v done W0 r) ∨ (e = gaveEA ∧ ∀ a, a.defers = [] → Q (.panic gaveDA) a V))
theorem rd_tail2 {listed : Array Bool} {t15 t16 t17 : Value} (h2 : Region.ready .any rdOps listed = [2]) (h3 : Region.ready .any rdOps (listed.setIfInBounds 2 true) = [3]) (h4 : Region.ready .any rdOps ((listed.setIfInBounds 2 true).setIfInBounds 3 true) = [4]) (h5 : Region.ready .any rdOps (((listed.setIfInBounds 2 true).setIfInBounds 3 true).setIfInBounds 4 true) = [5]) (h6 : Region.ready .any rdOps ((((listed.setIfInBounds 2 true).setIfInBounds 3 true).setIfInBounds 4 true).setIfInBounds 5 true) = [])
    (hH : RdH b n0 v done W0) (hc : RdCall l2 n Q b n0 p v done W0) :
    wpAnyIn (Fence.wide.inRound l2) n Tryz.prog .any rdOps Q 4 listed (rdAct x0 x1 x2 x4 x6 x7 x8 x9 x10 x11 x12 x18 b p v (.string ⟨p.toArray⟩) t15 t16 t17) W0 := by
  refine wpAnyIn_all h2 (by simp) fun i hi => ?_
  obtain rfl : i = 2 := by simpa using hi
  refine rd_op2 (CallsIn.mono hc ?_)
  rintro e V ⟨hb, (⟨r, rfl, hf⟩ | ⟨rfl, hq⟩)⟩
  · exact .inl ⟨_, rfl, rd_tail3 h3 h4 h5 h6 hH hb hf⟩
  · exact .inr ⟨_, rfl, hq⟩
theorem read_region {id : Nat} {t13 t14 t15 t16 t17 : Value} {W : World} (hH : RdH b n0 v done W.drew) (hc : RdCall l2 n Q b n0 p v done W.drew) : (Code.region id rdOps true).wpIn (Fence.wide.inRound l2) n Tryz.prog Q (rdAct x0 x1 x2 x4 x6 x7 x8 x9 x10 x11 x12 x18 b p t13 t14 t15 t16 t17) W := by
  refine wpIn_region_any (by kernel_rfl) ?_
  show wpAnyIn _ _ _ _ _ _ 6 (Array.replicate 6 false) _ W.drew
  have hc0 := hH.box.cell 0
  refine wpAnyIn_all (rs := [0, 1]) (by kernel_rfl) (by simp) fun i hi => ?_
  have hi' : i = 0 ∨ i = 1 := by simpa using hi
  rcases hi' with rfl | rfl
  · refine rd_op0 hc0 ?_
    refine wpAnyIn_all (rs := [1]) (by kernel_rfl) (by simp) fun i hi => ?_
    obtain rfl : i = 1 := by simpa using hi
    exact rd_op1 (rd_tail2 (by kernel_rfl) (by kernel_rfl) (by kernel_rfl) (by kernel_rfl) (by kernel_rfl) hH hc)
  · refine rd_op1 ?_
    refine wpAnyIn_all (rs := [0, 2]) (by kernel_rfl) (by simp) fun i hi => ?_
    have hi' : i = 0 ∨ i = 2 := by simpa using hi
    rcases hi' with rfl | rfl
    · exact rd_op0 hc0 (rd_tail2 (by kernel_rfl) (by kernel_rfl) (by kernel_rfl) (by kernel_rfl) (by kernel_rfl) hH hc)
    · refine rd_op2 (CallsIn.mono hc ?_)
      rintro e V ⟨hb, (⟨r, rfl, hf⟩ | ⟨rfl, hq⟩)⟩
      · refine .inl ⟨_, rfl, ?_⟩
        have hH1 := hH.below hb
        refine wpAnyIn_all (rs := [0, 3]) (by kernel_rfl) (by simp) fun i hi => ?_
        have hi' : i = 0 ∨ i = 3 := by simpa using hi
        rcases hi' with rfl | rfl
        · exact rd_op0 (hH1.box.cell 0) (rd_tail3 (by kernel_rfl) (by kernel_rfl) (by kernel_rfl) (by kernel_rfl) hH hb hf)
        · refine rd_op3 ?_
          refine wpAnyIn_all (rs := [0]) (by kernel_rfl) (by simp) fun i hi => ?_
          obtain rfl : i = 0 := by simpa using hi
          exact rd_op0 ((hH1.below ((Below.refl V.heap.size V).alloc (Nat.le_refl _) _)).box.cell 0) (rd_tail4 (by kernel_rfl) (by kernel_rfl) (by kernel_rfl) hH hb hf)
      · exact .inr ⟨_, rfl, hq⟩
end
end Go.Proofs.YtbmemkbfignlaaaGreatDoor
