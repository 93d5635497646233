import Derived.Test.YtabgpnieekcdhaaDoorAnP
namespace Go.Proofs.YtabgpnieekcdhaaDoor
open Go.RowKit Go.Shelf
attribute [local go_sem] Oper.semAt_some

/-! ## A line ends -/
set_option maxRecDepth 100000 in
set_option maxHeartbeats 8000000 in
theorem ends_last (f : ByteArray) (A : Option Addr) (m c : Nat) (n : Int) (cl cb cf : Int) (w : World) (hf : f.toList.isEmpty = false) :
    Calls Tryd.prog 52 #[.agg (rdX cl cb cf f (.slice A m c) ⟨#[]⟩ (n) true false 0)] w fun e w' => e = .returned (.agg (rdX cl cb cf f (.slice A m c) ⟨#[]⟩ (n) false true 0)) ∧ Below w.heap.size w w' := by
  obtain ⟨k, hk⟩ : ∃ k, w.heap.size = k := ⟨_, rfl⟩
  obtain ⟨w1, hw1⟩ : ∃ w1, w.alloc (.cells (rdX cl cb cf f (.slice A m c) ⟨#[]⟩ (n) true false 0) 77) = w1 := ⟨_, rfl⟩
  have hB1 : Below w.heap.size w w1 := by rw [← hw1]; exact (Below.refl _ _).alloc (Nat.le_refl _) _
  have z0 : Has w1 k 77 (rdX cl cb cf f (.slice A m c) ⟨#[]⟩ (n) true false 0) := by rw [← hw1, ← hk]; exact Has.new _ _ _
  have hz1 : w1.heap.size = k + 1 := by rw [← hw1, World.size_alloc, hk]
  obtain ⟨w2, hw2⟩ : ∃ w2, w1.alloc (.cells rdZ 77) = w2 := ⟨_, rfl⟩
  have hB2 : Below w.heap.size w w2 := by rw [← hw2]; exact hB1.alloc (by omega) _
  have x20 : Has w2 k 77 (rdX cl cb cf f (.slice A m c) ⟨#[]⟩ (n) true false 0) := by rw [← hw2]; exact z0.alloc _
  have x21 : Has w2 (k + 1) 77 rdZ := by rw [← hw2, ← hz1]; exact Has.new _ _ _
  have hz2 : w2.heap.size = k + 2 := by rw [← hw2, World.size_alloc, hz1]
  clear hB1 z0
  have ld2_5 := x20.cell 5
  have lc2 := x20.cell 5
  have fr2 := x20.free 5
  obtain ⟨w3, hw3⟩ : ∃ w3, w2.setCell ⟨k, 5, none⟩ (.string ⟨#[]⟩) = w3 := ⟨_, rfl⟩
  have x30 : Has w3 k 77 (rdX cl cb cf f (.slice A m c) ⟨#[]⟩ (n) true false 0) := by rw [← hw3]; simpa using x20.put 5 (.string ⟨#[]⟩)
  have x31 : Has w3 (k + 1) 77 rdZ := by rw [← hw3]; exact x21.other (by omega) _
  have hB3 : Below w.heap.size w w3 := by rw [← hw3]; exact hB2.setCell (p := ⟨k, 5, none⟩) (by show _ ≤ k; omega) _
  have lc3 := x30.cell 7
  have fr3 := x30.free 7
  obtain ⟨w4, hw4⟩ : ∃ w4, w3.setCell ⟨k, 7, none⟩ (.bool false) = w4 := ⟨_, rfl⟩
  have x40 : Has w4 k 77 (rdX cl cb cf f (.slice A m c) ⟨#[]⟩ (n) false false 0) := by rw [← hw4]; simpa using x30.put 7 (.bool false)
  have x41 : Has w4 (k + 1) 77 rdZ := by rw [← hw4]; exact x31.other (by omega) _
  have hB4 : Below w.heap.size w w4 := by rw [← hw4]; exact hB3.setCell (p := ⟨k, 7, none⟩) (by show _ ≤ k; omega) _
  have ld4_3 := x40.cell 3
  have lc4 := x40.cell 8
  have fr4 := x40.free 8
  obtain ⟨w5, hw5⟩ : ∃ w5, w4.setCell ⟨k, 8, none⟩ (.bool true) = w5 := ⟨_, rfl⟩
  have x50 : Has w5 k 77 (rdX cl cb cf f (.slice A m c) ⟨#[]⟩ (n) false true 0) := by rw [← hw5]; simpa using x40.put 8 (.bool true)
  have x51 : Has w5 (k + 1) 77 rdZ := by rw [← hw5]; exact x41.other (by omega) _
  have hB5 : Below w.heap.size w w5 := by rw [← hw5]; exact hB4.setCell (p := ⟨k, 8, none⟩) (by show _ ≤ k; omega) _
  have ld5_8 := x50.cell 8
  have hsrc := Lib.hid x50
  have hdst := Lib.hid x51
  have hBf := Lib.hid hB5
  clear x20 x21 x30 x31 x40 x41 x50 x51 hB2 hB3 hB4 hB5
  go_enter Tryd.func52, Tryd.ntmps52
  go_upto_region 7 with (fail)
  clear lc2 lc3 lc4 ld2_5 ld4_3 ld5_8 fr2 fr3 fr4 hw5 hw4 hw3
  have e0 := hsrc.out.cell 0
  have g0 := hdst.out.cell 0
  have u0 := hdst.out.free 0
  have e1 := hsrc.out.cell 1
  have g1 := hdst.out.cell 1
  have u1 := hdst.out.free 1
  have e2 := hsrc.out.cell 2
  have g2 := hdst.out.cell 2
  have u2 := hdst.out.free 2
  have e3 := hsrc.out.cell 3
  have g3 := hdst.out.cell 3
  have u3 := hdst.out.free 3
  have e4 := hsrc.out.cell 4
  have g4 := hdst.out.cell 4
  have u4 := hdst.out.free 4
  have e5 := hsrc.out.cell 5
  have g5 := hdst.out.cell 5
  have u5 := hdst.out.free 5
  have e6 := hsrc.out.cell 6
  have g6 := hdst.out.cell 6
  have u6 := hdst.out.free 6
  have e7 := hsrc.out.cell 7
  have g7 := hdst.out.cell 7
  have u7 := hdst.out.free 7
  have e8 := hsrc.out.cell 8
  have g8 := hdst.out.cell 8
  have u8 := hdst.out.free 8
  have e9 := hsrc.out.cell 9
  have g9 := hdst.out.cell 9
  have u9 := hdst.out.free 9
  go_wp2
  have kf := s10_has (k := k + 1) hdst.out rfl (.int .i64 cl) (.int .i64 cb) (.int .i64 cf) (.string f) (.slice A m c) (.string ⟨#[]⟩) (.int .i64 (n)) (.bool false) (.bool true) (.int .i64 0)
  have y0 := kf.cell 0
  have y1 := kf.cell 1
  have y2 := kf.cell 2
  have y3 := kf.cell 3
  have y4 := kf.cell 4
  have y5 := kf.cell 5
  have y6 := kf.cell 6
  have y7 := kf.cell 7
  have y8 := kf.cell 8
  have y9 := kf.cell 9
  simp at y0 y1 y2 y3 y4 y5 y6 y7 y8 y9
  refine bodyPost_ret (v := .agg (rdX cl cb cf f (.slice A m c) ⟨#[]⟩ (n) false true 0)) (by simp [results, Tryd.results52, go_sem, y0, y1, y2, y3, y4, y5, y6, y7, y8, y9]) rfl ?_
  have hBk := s10_below (k := k + 1) hBf.out (by omega) (.int .i64 cl) (.int .i64 cb) (.int .i64 cf) (.string f) (.slice A m c) (.string ⟨#[]⟩) (.int .i64 (n)) (.bool false) (.bool true) (.int .i64 0)
  refine ⟨rfl, ?_⟩
  first | exact hBk | (rw [hk] at hBk; exact hBk)
set_option maxRecDepth 100000 in
set_option maxHeartbeats 8000000 in
theorem ends_head (b : UInt8) (r : List UInt8) (A : Option Addr) (m c : Nat) (n : Int) (cl cb cf : Int) (w : World) (h9 : b ≠ 9) (h32 : b ≠ 32) :
    Calls Tryd.prog 52 #[.agg (rdX cl cb cf ⟨#[]⟩ (.slice A m c) ⟨(b :: r).toArray⟩ (n) true false 0)] w fun e w' => e = .returned (.agg (rdX cl cb cf ⟨(b :: r).toArray⟩ (.slice A m c) ⟨#[]⟩ (n) false false 0)) ∧ Below w.heap.size w w' := by
  have hb0 : (b.toNat : Int) ≠ 9 := fun h => h9 (UInt8.toNat_inj.1 (by have : (9 : UInt8).toNat = 9 := rfl; omega))
  have hb1 : (b.toNat : Int) ≠ 32 := fun h => h32 (UInt8.toNat_inj.1 (by have : (32 : UInt8).toNat = 32 := rfl; omega))
  obtain ⟨lb, hlb⟩ : ∃ lb : ByteArray, ⟨(b :: r).toArray⟩ = lb := ⟨_, rfl⟩
  have hls : 0 < lb.size := by rw [← hlb]; simp [ByteArray.size]
  have hl0 : lb[0]'hls = b := by subst hlb; rfl
  have hln : lb.toList.isEmpty = false := by rw [← hlb]; simp
  have hi9 : (((lb[0]'hls).toNat : Int) == 9) = false := by rw [hl0]; exact beq_eq_false_iff_ne.2 hb0
  have hi32 : (((lb[0]'hls).toNat : Int) == 32) = false := by rw [hl0]; exact beq_eq_false_iff_ne.2 hb1
  have hlsI : (0 : Int) < (lb.size : Int) := by omega
  rw [hlb]
  clear hlb h9 h32 hl0 hb0 hb1
  obtain ⟨k, hk⟩ : ∃ k, w.heap.size = k := ⟨_, rfl⟩
  obtain ⟨w1, hw1⟩ : ∃ w1, w.alloc (.cells (rdX cl cb cf ⟨#[]⟩ (.slice A m c) lb (n) true false 0) 77) = w1 := ⟨_, rfl⟩
  have hB1 : Below w.heap.size w w1 := by rw [← hw1]; exact (Below.refl _ _).alloc (Nat.le_refl _) _
  have z0 : Has w1 k 77 (rdX cl cb cf ⟨#[]⟩ (.slice A m c) lb (n) true false 0) := by rw [← hw1, ← hk]; exact Has.new _ _ _
  have hz1 : w1.heap.size = k + 1 := by rw [← hw1, World.size_alloc, hk]
  obtain ⟨w2, hw2⟩ : ∃ w2, w1.alloc (.cells rdZ 77) = w2 := ⟨_, rfl⟩
  have hB2 : Below w.heap.size w w2 := by rw [← hw2]; exact hB1.alloc (by omega) _
  have x20 : Has w2 k 77 (rdX cl cb cf ⟨#[]⟩ (.slice A m c) lb (n) true false 0) := by rw [← hw2]; exact z0.alloc _
  have x21 : Has w2 (k + 1) 77 rdZ := by rw [← hw2, ← hz1]; exact Has.new _ _ _
  have hz2 : w2.heap.size = k + 2 := by rw [← hw2, World.size_alloc, hz1]
  clear hB1 z0
  have ld2_5 := x20.cell 5
  have lc2 := x20.cell 5
  have fr2 := x20.free 5
  obtain ⟨w3, hw3⟩ : ∃ w3, w2.setCell ⟨k, 5, none⟩ (.string ⟨#[]⟩) = w3 := ⟨_, rfl⟩
  have x30 : Has w3 k 77 (rdX cl cb cf ⟨#[]⟩ (.slice A m c) ⟨#[]⟩ (n) true false 0) := by rw [← hw3]; simpa using x20.put 5 (.string ⟨#[]⟩)
  have x31 : Has w3 (k + 1) 77 rdZ := by rw [← hw3]; exact x21.other (by omega) _
  have hB3 : Below w.heap.size w w3 := by rw [← hw3]; exact hB2.setCell (p := ⟨k, 5, none⟩) (by show _ ≤ k; omega) _
  have lc3 := x30.cell 7
  have fr3 := x30.free 7
  obtain ⟨w4, hw4⟩ : ∃ w4, w3.setCell ⟨k, 7, none⟩ (.bool false) = w4 := ⟨_, rfl⟩
  have x40 : Has w4 k 77 (rdX cl cb cf ⟨#[]⟩ (.slice A m c) ⟨#[]⟩ (n) false false 0) := by rw [← hw4]; simpa using x30.put 7 (.bool false)
  have x41 : Has w4 (k + 1) 77 rdZ := by rw [← hw4]; exact x31.other (by omega) _
  have hB4 : Below w.heap.size w w4 := by rw [← hw4]; exact hB3.setCell (p := ⟨k, 7, none⟩) (by show _ ≤ k; omega) _
  have ld4_3 := x40.cell 3
  have lc4 := x40.cell 3
  have fr4 := x40.free 3
  obtain ⟨w5, hw5⟩ : ∃ w5, w4.setCell ⟨k, 3, none⟩ (.string lb) = w5 := ⟨_, rfl⟩
  have x50 : Has w5 k 77 (rdX cl cb cf lb (.slice A m c) ⟨#[]⟩ (n) false false 0) := by rw [← hw5]; simpa using x40.put 3 (.string lb)
  have x51 : Has w5 (k + 1) 77 rdZ := by rw [← hw5]; exact x41.other (by omega) _
  have hB5 : Below w.heap.size w w5 := by rw [← hw5]; exact hB4.setCell (p := ⟨k, 3, none⟩) (by show _ ≤ k; omega) _
  have hsrc := Lib.hid x50
  have hdst := Lib.hid x51
  have hBf := Lib.hid hB5
  clear x20 x21 x30 x31 x40 x41 x50 x51 hB2 hB3 hB4 hB5
  go_enter Tryd.func52, Tryd.ntmps52
  go_upto_region 13 with (fail)
  clear lc2 lc3 lc4 ld2_5 ld4_3 fr2 fr3 fr4 hw5 hw4 hw3
  have e0 := hsrc.out.cell 0
  have g0 := hdst.out.cell 0
  have u0 := hdst.out.free 0
  have e1 := hsrc.out.cell 1
  have g1 := hdst.out.cell 1
  have u1 := hdst.out.free 1
  have e2 := hsrc.out.cell 2
  have g2 := hdst.out.cell 2
  have u2 := hdst.out.free 2
  have e3 := hsrc.out.cell 3
  have g3 := hdst.out.cell 3
  have u3 := hdst.out.free 3
  have e4 := hsrc.out.cell 4
  have g4 := hdst.out.cell 4
  have u4 := hdst.out.free 4
  have e5 := hsrc.out.cell 5
  have g5 := hdst.out.cell 5
  have u5 := hdst.out.free 5
  have e6 := hsrc.out.cell 6
  have g6 := hdst.out.cell 6
  have u6 := hdst.out.free 6
  have e7 := hsrc.out.cell 7
  have g7 := hdst.out.cell 7
  have u7 := hdst.out.free 7
  have e8 := hsrc.out.cell 8
  have g8 := hdst.out.cell 8
  have u8 := hdst.out.free 8
  have e9 := hsrc.out.cell 9
  have g9 := hdst.out.cell 9
  have u9 := hdst.out.free 9
  go_wp2
  have kf := s10_has (k := k + 1) hdst.out rfl (.int .i64 cl) (.int .i64 cb) (.int .i64 cf) (.string lb) (.slice A m c) (.string ⟨#[]⟩) (.int .i64 (n)) (.bool false) (.bool false) (.int .i64 0)
  have y0 := kf.cell 0
  have y1 := kf.cell 1
  have y2 := kf.cell 2
  have y3 := kf.cell 3
  have y4 := kf.cell 4
  have y5 := kf.cell 5
  have y6 := kf.cell 6
  have y7 := kf.cell 7
  have y8 := kf.cell 8
  have y9 := kf.cell 9
  simp at y0 y1 y2 y3 y4 y5 y6 y7 y8 y9
  refine bodyPost_ret (v := .agg (rdX cl cb cf lb (.slice A m c) ⟨#[]⟩ (n) false false 0)) (by simp [results, Tryd.results52, go_sem, y0, y1, y2, y3, y4, y5, y6, y7, y8, y9]) rfl ?_
  have hBk := s10_below (k := k + 1) hBf.out (by omega) (.int .i64 cl) (.int .i64 cb) (.int .i64 cf) (.string lb) (.slice A m c) (.string ⟨#[]⟩) (.int .i64 (n)) (.bool false) (.bool false) (.int .i64 0)
  refine ⟨rfl, ?_⟩
  first | exact hBk | (rw [hk] at hBk; exact hBk)
end Go.Proofs.YtabgpnieekcdhaaDoor
namespace Go.Proofs.YtabgpnieekcdhaaDoor
open Go.RowKit Go.Shelf
attribute [local go_sem] Oper.semAt_some

/-! ## A field's line ends -/
theorem run_append_hdrs {w : World} {n0 : Nat} {v : Value} {l : List PairL} (hv : HdsO w n0 v l) (A : Option Addr) (hrow : A = none → v.ownBlock ≠ none) (c : Nat) (qs : List PairL) (hA : A = none → c = 0) (hx : Prs w A qs) (hs : l.length + qs.length ≤ 1000000) (hn : n0 ≤ w.heap.size) :
    ∃ v' w', (Builtin.append_ #[51, 51] 51 #[v, .slice A qs.length c]).run Tryd.prog w = .ok v' w' ∧ HdsO w' n0 v' (l ++ qs) ∧ w.grownBy w' v.ownBlock := by
  obtain ⟨i, hi, hz, hz1, hz2⟩ := info_parts infoHdr
  have hlen : ∀ qs : List PairL, (prsC qs).length = qs.length * 2 := by
    intro qs
    induction qs with
    | nil => rfl
    | cons q r ih => show (prsC r).length + 1 + 1 = _; rw [ih, List.length_cons]; omega
  have key : ∀ (ad : Addr), (∀ (j : Nat) (u : Value), (prsC qs)[j]? = some u → w.cell? (ad.add j) = some u) → ∃ v' w', (Builtin.append_ #[51, 51] 51 #[v, .slice (some ad) qs.length c]).run Tryd.prog w = .ok v' w' ∧ HdsO w' n0 v' (l ++ qs) ∧ w.grownBy w' v.ownBlock := by
    intro ad hc
    obtain ⟨v', w', h1, h2, h3, _⟩ := run_append_own_at (P := Tryd.prog) w n0 51 51 69 i _ 2 32 Tryd.underlying51 hi hz hz1 hz2 rfl (by decide) v l.length (prsC l) hv ad qs.length c (prsC qs) (hlen qs) hc (prsC_one _) (by simp only [maxLen]; omega) (by omega) hn
    refine ⟨v', w', h1, ?_, h3⟩
    unfold HdsO
    rw [List.length_append, prsC_append]
    exact h2
  cases qs with
  | cons q r =>
    obtain ⟨b, o, rfl, hlt, hc⟩ := hx (by simp)
    refine key _ fun j u hu => ?_
    have hj : j < (prsC (q :: r)).length := (List.getElem?_eq_some_iff.1 hu).1
    rw [hlen] at hj
    obtain ⟨x, hxe⟩ : ∃ x, (q :: r)[j / 2]? = some x := ⟨_, List.getElem?_eq_getElem (by omega)⟩
    obtain ⟨g1, g2⟩ := prsC_get _ _ _ hxe
    obtain ⟨c1, c2⟩ := hc _ _ hxe
    rw [add_zero_]
    rcases (by omega : j = j / 2 * 2 ∨ j = j / 2 * 2 + 1) with e | e
    · rw [← e, hu] at g1
      rw [Option.some.inj g1, e]
      rw [← e] at c1 ⊢
      exact c1
    · rw [← e, hu] at g2
      rw [Option.some.inj g2]
      rw [Nat.add_assoc, ← e] at c2
      exact c2
  | nil =>
    cases A with
    | some ad => exact key ad (fun j u hu => by simp [prsC] at hu)
    | none =>
      have hc0 := hA rfl
      subst hc0
      refine ⟨v, w, ?_, by rw [List.append_nil]; exact hv, ⟨rfl, rfl, rfl, Nat.le_refl _, fun _ _ _ => rfl⟩⟩
      rcases hv.2 with ⟨rfl, _⟩ | ⟨g, cap, cur, rfl, hb, hg, hnc, _⟩
      · exact absurd rfl (hrow rfl)
      · have hp : w.heap[g]? = some (.cells cur 69 (0, 0)) := hg
        simp [Builtin.append_, run_underlying Tryd.underlying51, sizeOf, typeInfo, hi, Builtin.lenOf, Builtin.firstCells, loadCells, loadCellsFrom, hnc, storeCells]
theorem step_append_run {ops : Array Oper} {o : Oper} {a : Act} {w w' : World} {Q : Exit → Act → World → Prop} {K : Act → World → Prop} {E : Prop} {sv xv v' : Value} (hgd : o.guard = none) (s x : Operand) (ho : o.op = .call { callee := .builtin .append, args := #[s, x], argTypes := #[51, 51] }) (hty : o.type = 51) (hsv : a.eval s = sv) (hxv : a.eval x = xv)
    (hrun : (Builtin.append_ #[51, 51] 51 #[sv, xv]).run Tryd.prog w = .ok v' w') (h : K (a.put o.dst v') w') : if Region.wanted o (yielded ops a.tmps) = true then Oper.wp Tryd.prog o a w K Q else E := by
  rw [if_pos (by unfold Region.wanted; rw [hgd])]
  unfold Oper.wp execOp
  simp only [ho, hty, resolve, invoke, builtin, Sem.run_bind, Sem.run_pure, Result.andThen_ok, List.map_toArray, List.map_cons, List.map_nil, hsv, hxv, hrun]
  exact h
end Go.Proofs.YtabgpnieekcdhaaDoor
