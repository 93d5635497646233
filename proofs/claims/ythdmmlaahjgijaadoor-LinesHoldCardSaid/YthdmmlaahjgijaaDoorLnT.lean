import Derived.Test.YthdmmlaahjgijaaDoorLnS
import Derived.Test.YthdmmlaahjgijaaDoorKf
import Derived.Lib.MinMax
import Derived.Deep.CutRange
namespace Go.Proofs.YthdmmlaahjgijaaDoor
open Go.RowKit Go.Shelf

/-! ## The stage's theorem: however bytes come in pieces, the lines are the same -/
theorem linesC_split : ∀ (x : List (List UInt8 × Bool)) (j : Nat) (u : Value), (linesC x)[j]? = some u → ∃ i y, x[i]? = some y ∧ ((j = i * 2 ∧ u = .string ⟨y.1.toArray⟩) ∨ (j = i * 2 + 1 ∧ u = .bool y.2))
  | [], j, u, h => by simp [linesC] at h
  | y :: r, 0, u, h => by
    refine ⟨0, y, rfl, .inl ⟨rfl, ?_⟩⟩
    simpa [linesC] using h.symm
  | y :: r, 1, u, h => by
    refine ⟨0, y, rfl, .inr ⟨rfl, ?_⟩⟩
    simpa [linesC] using h.symm
  | y :: r, j + 2, u, h => by
    have h2 : (linesC r)[j]? = some u := by simpa [linesC] using h
    obtain ⟨i, z, hz, hc⟩ := linesC_split r j u h2
    refine ⟨i + 1, z, by simpa using hz, ?_⟩
    rcases hc with ⟨e, hu⟩ | ⟨e, hu⟩
    · exact .inl ⟨by omega, hu⟩
    · exact .inr ⟨by omega, hu⟩
set_option maxRecDepth 100000 in
theorem run_append_lns {w : World} {n0 : Nat} {v : Value} {l : List (List UInt8 × Bool)} (hv : Lns w n0 v l) (A : Option Addr) (x : List (List UInt8 × Bool)) (c : Nat) (hx : LnAt w A x) (hs : l.length + x.length ≤ 1000000000) (hn : n0 ≤ w.heap.size) (ty : TypeId) :
    ∃ v' w', (Builtin.append_ #[60, 60] ty #[v, .slice A x.length c]).run Tryd.prog w = .ok v' w' ∧ Lns w' n0 v' (l ++ x) ∧ w.grownBy w' v.ownBlock := by
  obtain ⟨i, hi, hz, hz1, hz2⟩ := info_parts infoLine
  have nothing : x = [] → ∃ v' w', (Builtin.append_ #[60, 60] ty #[v, .slice A x.length c]).run Tryd.prog w = .ok v' w' ∧ Lns w' n0 v' (l ++ x) ∧ w.grownBy w' v.ownBlock := by
    rintro rfl
    have hl : Lns w n0 v (l ++ []) := by rw [List.append_nil]; exact hv
    have hg : w.grownBy w v.ownBlock := ⟨rfl, rfl, rfl, Nat.le_refl _, fun _ _ _ => rfl⟩
    rcases hv.2 with ⟨rfl, h0⟩ | ⟨g, cap, cur, rfl, hb, hh, hnc, hcm, _⟩
    · refine ⟨_, w, ?_, hl, hg⟩
      cases A <;> simp [Builtin.append_, run_underlying Tryd.underlying60, sizeOf, typeInfo, hi, Builtin.lenOf, Builtin.firstCells]
      all_goals
        have h0 := run_loadCells_list (P := Tryd.prog) w ‹Addr› [] (by simp)
        simp only [List.length_nil] at h0
        simp [h0]
    · refine ⟨_, w, ?_, hl, hg⟩
      cases A <;> simp [Builtin.append_, run_underlying Tryd.underlying60, sizeOf, typeInfo, hi, Builtin.lenOf, Builtin.firstCells, hnc, storeCells]
      all_goals
        have h0 := run_loadCells_list (P := Tryd.prog) w ‹Addr› [] (by simp)
        simp only [List.length_nil] at h0
        simp [h0, storeCells]
  rcases Nat.eq_zero_or_pos x.length with h0 | h0
  · exact nothing (List.eq_nil_of_length_eq_zero h0)
  · obtain ⟨g, rfl, _, _⟩ := hx 0 x[0] (List.getElem?_eq_getElem h0)
    have hc : ∀ j u, (linesC x)[j]? = some u → w.cell? ((⟨g, 0, none⟩ : Addr).add j) = some u := fun j u hu => by
      obtain ⟨i, y, hy, hh⟩ := linesC_split x j u hu
      obtain ⟨g', he, _, h1, h2⟩ := hx i y hy
      obtain rfl : g = g' := by injection he with he; injection he
      rw [add_zero_, Nat.zero_add]
      rcases hh with ⟨rfl, rfl⟩ | ⟨rfl, rfl⟩
      · exact h1
      · exact h2
    obtain ⟨v', w', hrun, h2, h3, _, _⟩ := run_append_own_at (P := Tryd.prog) w n0 60 ty 70 i (.agg #[.string ⟨#[]⟩, .bool false]) 2 24 Tryd.underlying60 hi hz hz1 hz2 rfl (by decide) v l.length (linesC l) hv ⟨g, 0, none⟩ x.length c (linesC x) (linesC_length x) hc (linesC_one x) (by simp only [maxLen]; omega) (by omega) hn
    refine ⟨v', w', hrun, ?_, h3⟩
    unfold Lns
    rw [List.length_append, linesC_append]
    exact h2
theorem wpList_append_lns {w : World} {ops : Array Oper} {rest : List Oper} {o : Oper} {a : Act} {Q : Exit → Act → World → Prop} {n0 : Nat} {v : Value} {l : List (List UInt8 × Bool)} (hgd : o.guard = none) (s x : Operand) (ho : o.op = .call { callee := .builtin .append, args := #[s, x], argTypes := #[60, 60] }) (hsv : a.eval s = v) (hv : Lns w n0 v l)
    (A : Option Addr) (y : List (List UInt8 × Bool)) (m c : Nat) (hm : m = y.length) (hxv : a.eval x = .slice A m c) (hx : LnAt w A y) (hs : l.length + y.length ≤ 1000000000) (hn : n0 ≤ w.heap.size)
    (h : ∀ v' w', Lns w' n0 v' (l ++ y) → w.grownBy w' v.ownBlock → wpList Tryd.prog ops Q rest (a.put o.dst v') w') : wpList Tryd.prog ops Q (o :: rest) a w := by
  subst hm
  refine wpList_plain hgd fun K hK => ?_
  obtain ⟨v', w', hrun, h2, h3⟩ := run_append_lns hv A y c hx hs hn o.type
  unfold Oper.wp execOp
  simp only [ho, resolve, invoke, builtin, Sem.run_bind, Sem.run_pure, Result.andThen_ok, List.map_toArray, List.map_cons, List.map_nil, hsv, hxv, hrun]
  exact hK _ _ (h v' w' h2 h3)
set_option maxRecDepth 100000 in
theorem holdsL_works (z : Int) (A B : Option Addr) (len cap len2 cap2 : Nat) (w : World) (hT : Tab w) (hE : Ends w) (hl : 300 < len ∨ z < 1 ∨ 65536 < z) (hm : len ≤ maxLen) :
    Calls Tryd.prog 10 #[.int .i64 z, .slice A len cap, .slice B len2 cap2] w fun e w' => e = .returned (.bool true) ∧ Below w.heap.size w w' := by
  unfold maxLen at hm
  have hw := Lib.hid (worksL_any w hT hE)
  clear hT hE
  by_cases h1 : 300 < len
  · clear hl
    have h1i : (300 : Int) < (len : Int) := by omega
    go_enter Tryd.func10, Tryd.ntmps10
    go_wp2_with (go_at_call 29; refine hw.out.mono ?_; rintro e w9 ⟨rfl, hb9⟩)
    go_ret
    exact ⟨rfl, hb9⟩
  · have h1i : ¬ (300 : Int) < (len : Int) := by omega
    by_cases h2 : z < 1
    · clear hl
      go_enter Tryd.func10, Tryd.ntmps10
      go_wp2_with (go_at_call 29; refine hw.out.mono ?_; rintro e w9 ⟨rfl, hb9⟩)
      go_ret
      exact ⟨rfl, hb9⟩
    · have h3 : 65536 < z := by omega
      clear hl
      go_enter Tryd.func10, Tryd.ntmps10
      go_wp2_with (go_at_call 29; refine hw.out.mono ?_; rintro e w9 ⟨rfl, hb9⟩)
      go_ret
      exact ⟨rfl, hb9⟩
/-- What a round rests on. -/
def HlM (w : World) (sp dp most : Nat) (bs : List UInt8) (at_ : Nat) (v : Value) (W : World) : Prop :=
  Lns W w.heap.size v (stepC most init0 (bs.take at_)).1 ∧ SpN W w.heap.size sp dp most (stepC most init0 (bs.take at_)).2 ∧ Below w.heap.size w W
theorem stepC_more (most : Nat) (bs : List UInt8) (i q : Nat) : stepC most init0 (bs.take (i + q)) = ((stepC most init0 (bs.take i)).1 ++ (stepC most (stepC most init0 (bs.take i)).2 ((bs.drop i).take q)).1, (stepC most (stepC most init0 (bs.take i)).2 ((bs.drop i).take q)).2) := by
  rw [take_cut, stepC_append]
set_option maxRecDepth 100000 in
set_option maxHeartbeats 4000000 in
theorem lawHoldsL (most : Nat) (A B : Option Addr) (m cap m2 cap2 : Nat) (bs cs : List UInt8) (w : World) (hT : Tab w) (hE : Ends w) (hm : m = bs.length) (hm2 : m2 = cs.length) (hA : Rd w (· < w.heap.size) A bs) (hB : Rd w (· < w.heap.size) B cs)
    (hl : m ≤ 300) (h1 : 1 ≤ most) (h2 : most ≤ 65536) (hc : m ≤ cap) (hcm : cap ≤ maxLen) (hm2m : m2 ≤ maxLen) :
    Calls Tryd.prog 10 #[.int .i64 (most : Int), .slice A m cap, .slice B m2 cap2] w fun e w' => e = .returned (.bool true) ∧ Below w.heap.size w w' := by
  unfold maxLen at hcm hm2m
  have hT' := Lib.hid hT
  have hE' := Lib.hid hE
  have hm' := Lib.hid hm
  have hm2' := Lib.hid hm2
  have hA' := Lib.hid hA
  have hB' := Lib.hid hB
  have t1 := hT.lt
  have t2 := hE.lt
  have hi0 : ¬ (300 : Int) < (m : Int) := by omega
  have hi1 : ¬ (most : Int) < 1 := by omega
  have hi2 : ¬ (65536 : Int) < (most : Int) := by omega
  have hnw := Lib.hid (newL_yes w.heap.size most w h1 h2)
  clear hT hE hm hm2 hA hB
  go_enter Tryd.func10, Tryd.ntmps10
  go_wp2_with (go_at_call 35; (with_reducible refine Calls.mono hnw.out ?_); rintro e w1 ⟨sp, rfl, dp, hsp, hdp, hs1, hb1⟩; have hs1' := Lib.hid hs1; have hb1' := Lib.hid hb1; clear hs1 hb1)
  go_loopw [9, 10, 11] (fun x9 x10 x11 W => ∃ (at_ i : Nat), x10 = .int .i64 (at_ : Int) ∧ x11 = .int .i64 (i : Int) ∧ at_ ≤ m ∧ i ≤ 5001 ∧ HlM w sp dp most bs at_ x9 W) (fun _ _ x11 _ => 5002 - (intOf x11).toNat)
  case atStart =>
    refine ⟨0, 0, rfl, rfl, Nat.zero_le _, by omega, ?_, ?_, hb1'.out⟩
    · rw [List.take_zero, stepC_nil (init0_ok most)]; exact lns_nil _ _
    · rw [List.take_zero, stepC_nil (init0_ok most)]; exact ⟨none, hs1'.out, hsp, hdp⟩
  case round =>
    obtain ⟨at_, i, rfl, rfl, hat, hi, hv, hS, hBW⟩ := hrel
    have hv' := Lib.hid hv
    have hS' := Lib.hid hS
    have hBW' := Lib.hid hBW
    have hzw := hBW.size
    clear hv hS hBW
    by_cases hlt : at_ < m
    · by_cases hi5 : i ≤ 5000
      · have hi5i : (i : Int) ≤ 5000 := by omega
        have hlti : (at_ : Int) < (m : Int) := by omega
        obtain ⟨ad, had, _⟩ := hA'.out (by have := hm'.out; omega)
        subst had
        go_upto_if 49 with (fail)
        go_cut [12] from 46 to 60 (fun s12 wx => ∃ q : Nat, s12 = .int .i64 (q : Int) ∧ q ≤ m - at_ ∧ wr = wx)
        case first =>
          by_cases hil : i < m2
          · obtain ⟨ad2, had2, hblt, hcell⟩ := hB'.out (by have := hm2'.out; omega)
            subst had2
            have hic : i < cs.length := by have := hm2'.out; omega
            have hci := hcell i (byt cs[i]) (byts_at hic)
            have hci2 : wr.cell? (ad2.add i) = some (byt cs[i]) := (hBW'.out.cell (p := ad2.add i) (by rw [add_block_]; exact hblt)).trans hci
            unfold byt at hci2
            have hb256 := byte256 cs[i]
            have hili : (i : Int) < (m2 : Int) := by omega
            obtain ⟨q, hq⟩ : ∃ q, (cs[i].toNat : Int) % 9 = ((q : Nat) : Int) := ⟨cs[i].toNat % 9, by omega⟩
            generalize cs[i].toNat = cn at hci2 hq hb256
            clear hci hcell
            go_wp2_with fail
            go_meet
            case rel =>
              exact ⟨min q (m - at_), by simp; omega, by omega, rfl⟩
          · have hili : ¬ (i : Int) < (m2 : Int) := by omega
            have hi1' : decide (i < m2) = false := by simpa using hil
            go_wp2_with fail
            go_meet
            case rel => exact ⟨1, rfl, by omega, rfl⟩
        case rest =>
          obtain ⟨q, rfl, hq, hww⟩ := hcut
          subst hww
          have hmore := stepC_more most bs at_ q
          have hok := stepC_ok (init0_ok most) (bs.take at_)
          have hcnt := stepC_count (most := most) init0 (bs.take at_)
          have hw3 : (stepC most init0 (bs.take at_)).2.ws.length ≤ 3 := run_three _
          obtain ⟨x, hx⟩ : ∃ x, (bs.drop at_).take q = x := ⟨_, rfl⟩
          have hxl : q = x.length := by rw [← hx, List.length_take, List.length_drop]; have := hm'.out; omega
          rw [hx] at hmore
          have hrd := ((hA'.out.kept (Kept.below hBW'.out (fun _ h => h))).mono (S' := fun k => k < wr.heap.size ∧ (k < w.heap.size ∨ wr.heap.size ≤ k)) (fun b hb => by have hb : b < w.heap.size := hb; exact ⟨by omega, .inl hb⟩)).drop at_ cap (by have := hm'.out; omega)
          rw [if_neg (by omega)] at hrd
          have hrd2 := hrd.take q
          rw [hx] at hrd2
          have hvx := hv'.out
          have hSx := hS'.out
          obtain ⟨st, hst⟩ : ∃ st, stepC most init0 (bs.take at_) = st := ⟨_, rfl⟩
          rw [hst] at hmore hok hcnt hw3 hvx hSx
          have hcnt2 := stepC_count (most := most) st.2 x
          have hwrt := writeN_any w.heap.size sp dp most st.2 x (some (ad.add at_)) q (cap - at_) wr wr hSx (Below.refl _ _) hok h1 h2 hxl (by omega) (by omega) (by omega) hrd2 (hT'.out.below hBW'.out) (hE'.out.below hBW'.out) t1 t2 hzw
          have hlens : Hid (st.1.length + (stepC most st.2 x).1.length ≤ 1000000000) := Lib.hid (by
            have hz : (bs.take at_).length ≤ 300 := by rw [List.length_take]; omega
            have hz2 : init0.ws.length = 0 := rfl
            omega)
          have hq2 : q ≤ m := by omega
          have hqi : (at_ : Int) + (q : Int) ≤ (m : Int) := by omega
          have hqc : (at_ : Int) + (q : Int) ≤ (cap : Int) := by omega
          have hac : (at_ : Int) < (cap : Int) := by omega
          have hvx' := Lib.hid hvx
          have hmore' := Lib.hid hmore
          have hwrt' := Lib.hid hwrt
          have hqm' := Lib.hid hq
          clear hmore hok hcnt hw3 hx hxl hrd hrd2 hvx hSx hst hcnt2 hwrt hq
          obtain ⟨ls2, hls2⟩ : ∃ ls2, (stepC most st.2 x).1 = ls2 := ⟨_, rfl⟩
          go_wp2_with fail
          refine hwrt'.out.mono ?_
          rintro e w2 ⟨v2, rfl, g1, g2, g3, g4, _⟩
          rw [hls2] at g1 hlens
          obtain ⟨A2, c2, rfl, g5⟩ := g1.at
          obtain ⟨k2, hk2⟩ : ∃ k2, ls2.length = k2 := ⟨_, rfl⟩
          rw [hk2]
          have hk2' := Lib.hid hk2.symm
          have g2' := Lib.hid g2
          have g3' := Lib.hid (hBW'.out.trans g3)
          have g5' := Lib.hid g5
          have hv2 := Lib.hid (g4 _ _ _ hvx'.out)
          have hls2' := Lib.hid hls2
          have z2 := g3'.out.size
          clear g1 g2 g3 g4 g5 hk2 hls2
          go_wp2_with (first
            | (go_at_call 34; (with_reducible refine Calls.mono (numLn_any _ _) ?_); rintro e w' ⟨rfl, rfl⟩)
            | (at_builtin; refine wpList_append_lns rfl _ _ rfl rfl hv2.out A2 ls2 k2 c2 hk2'.out rfl g5'.out hlens.out z2 ?_; intro v3 w3 hv3 hg3; have hv3' := Lib.hid hv3; have hg3' := Lib.hid hg3; clear hv3 hg3))
          have hbe : Below w.heap.size w w3 := g3'.out.grown hg3'.out z2 (fun g e => (hv2.out.own g e).1)
          refine ⟨⟨at_ + q, i + 1, by go_num, by go_num, by omega, by omega, ?_, ?_, hbe⟩, by simp [intOf]; omega⟩
          · rw [hmore'.out]
            simp only
            rw [hls2'.out]
            exact hv3'.out
          · rw [hmore'.out]
            obtain ⟨ob, o1, o2, o3⟩ := g2'.out
            refine ⟨ob, ?_, o2, o3⟩
            obtain ⟨vb, b1, b2, b3, b4⟩ := o1
            obtain ⟨_, hd⟩ := b3.typed
            have hgk : ∀ {k : Nat} {t : TypeId} {cs : Array Value}, Has w2 k t cs → t ≠ 70 → w3.heap[k]? = w2.heap[k]? := fun {k t cs} hh ht => hg3'.out.block k hh.lt (fun e => by
              obtain ⟨_, _, h8⟩ := hv2.out.own k e.symm
              exact hh.apart h8 ht rfl)
            exact ⟨vb, (hgk b1 (by decide)).trans b1, b2.kept (fun g hg => by obtain ⟨_, _, h8⟩ := b2.own g hg; exact hgk h8 (by decide)), b3.kept (hgk hd (by decide)), b4⟩
      · have hi5n : True := trivial
        obtain ⟨A1, c1, rfl, _⟩ := hv'.out.shape
        obtain ⟨k1, hk1⟩ : ∃ k1, (stepC most init0 (bs.take at_)).1.length = k1 := ⟨_, rfl⟩
        rw [hk1]
        have hat1 := hv'.out.at
        rw [hk1] at hat1
        obtain ⟨A1', c1', he1, hat1⟩ := hat1
        injection he1 with he1 _ he2
        subst he1
        subst he2
        have hk1' := Lib.hid hk1
        have hrA := (hA'.out.kept (Kept.below hBW'.out (fun _ h => h))).mono (S' := (· < wr.heap.size)) (fun b hb => by have hb : b < w.heap.size := hb; show b < wr.heap.size; omega)
        have hofx := Lib.hid (ofL_yes most bs A m cap wr h1 h2 hm'.out hc (by omega) (by omega) hrA (hT'.out.below hBW'.out) (hE'.out.below hBW'.out))
        have hat1' := Lib.hid hat1
        have hgood := Lib.hid (stepC_good (init0_ok most) bs)
        have hcnt : (stepC most init0 bs).1.length ≤ 900 := by
          have := stepC_count (most := most) init0 bs
          have hz2 : init0.ws.length = 0 := rfl
          have := hm'.out
          omega
        obtain ⟨ls, hls⟩ : ∃ ls, (stepC most init0 bs).1 = ls := ⟨_, rfl⟩
        have hls' := Lib.hid hls
        rw [hls] at hcnt hgood
        clear hat1 hls hrA hk1
        have hx1 : ((at_ : Int) == (m : Int)) = false := by rw [beq_eq_false_iff_ne]; omega
        have hx2 : (at_ == m) = false := by rw [beq_eq_false_iff_ne]; omega
        have hx3 : ¬ at_ = m := by omega
        have hlti : (at_ : Int) < (m : Int) := by omega
        have hi5i : ¬ (i : Int) ≤ 5000 := by omega
        go_wp2_with fail
        refine hofx.out.mono ?_
        rintro e w2 ⟨v2, rfl, q1, q2⟩
        rw [hls'.out] at q1
        obtain ⟨A2, c2, rfl, q5⟩ := q1.at
        obtain ⟨k2, hk2⟩ : ∃ k2, ls.length = k2 := ⟨_, rfl⟩
        rw [hk2]
        have hk2' := Lib.hid hk2.symm
        have hk2b : k2 ≤ 900 := by omega
        have z2 := q2.size
        have q5' := Lib.hid q5
        have hB2' := Lib.hid (below_at hBW'.out q2 hzw)
        have hz2w := hB2'.out.size
        clear q1 q2 q5 hk2
        go_wp2_with (go_at_call 34; (with_reducible refine Calls.mono (numLn_any _ _) ?_); rintro e w' ⟨rfl, rfl⟩)
        obtain ⟨w3, hw3⟩ : ∃ w3, w3 = w2 := ⟨_, rfl⟩
        subst hw3
        go_loopw [17] (fun x17 W => ∃ k : Nat, x17 = .int .i64 (k : Int) ∧ k ≤ k2 ∧ Below w3.heap.size w3 W) (fun x17 _ => k2 - (intOf x17).toNat)
        case atStart => exact ⟨0, rfl, Nat.zero_le _, Below.refl _ _⟩
        case round =>
          obtain ⟨k, rfl, hk, hbk⟩ := hrel
          have hbk' := Lib.hid hbk
          have hBk' := Lib.hid (below_at hB2'.out hbk hz2w)
          have hzk := hBk'.out.size
          clear hbk
          by_cases hkl : k < k2
          · have hkli : (k : Int) < (k2 : Int) := by omega
            obtain ⟨y, hy⟩ : ∃ y, ls[k]? = some y := ⟨ls[k]'(by have := hk2'.out; omega), List.getElem?_eq_getElem (by have := hk2'.out; omega)⟩
            obtain ⟨t, lg⟩ := y
            obtain ⟨f1, f2, f3, f4⟩ := hgood.out _ (List.mem_of_getElem? hy)
            simp only at f1 f2 f3 f4
            obtain ⟨g, hgA, _, d0, d1⟩ := (q5'.out.below hbk'.out) k _ hy
            subst hgA
            simp only at d0 d1
            have hlg : lg = false ∨ (lg = true ∧ t = []) := by cases lg with
              | false => exact .inl rfl
              | true => exact .inr ⟨rfl, f4 rfl⟩
            obtain ⟨s, hs⟩ : ∃ s : ByteArray, (⟨t.toArray⟩ : ByteArray) = s := ⟨_, rfl⟩
            have hsl : s.data.toList = t := by rw [← hs]
            have hsz : s.size = t.length := by rw [← hs]; show t.toArray.size = _; simp
            have hsm2 : ¬ (most : Int) < (s.size : Int) := by omega
            have hsb : s.size ≤ 65536 := by omega
            have hsnd : soundB s.data.toList = true := by rw [hsl]; unfold soundB; rw [decide_eq_true_eq]; exact f1
            have hrs := refSound_any s wr (by omega)
            rw [hsnd] at hrs
            rw [hs] at d0
            have hnoE := Lib.hid (show ∀ j (h : j < s.size), ((s[j].toNat : Int) == 13) = false ∧ ((s[j].toNat : Int) == 10) = false from fun j h => by
              have hj : j < s.data.toList.length := by simpa using h
              have hm : s.data.toList[j] ∈ t := by rw [← hsl]; exact List.getElem_mem hj
              have he : s[j] = s.data.toList[j] := rfl
              have := f2 _ hm
              rw [he]
              refine ⟨by rw [beq_eq_false_iff_ne]; intro e; exact this.1 (UInt8.toNat_inj.1 (by show _ = 13; omega)), by rw [beq_eq_false_iff_ne]; intro e; exact this.2 (UInt8.toNat_inj.1 (by show _ = 10; omega))⟩)
            have hs0 : t = [] → s = ⟨#[]⟩ := fun e => by rw [← hs, e]
            have d0' := Lib.hid d0
            have hrs' := Lib.hid hrs
            have hlg' := Lib.hid hlg
            have hs0' := Lib.hid hs0
            have hdk : Hid (∀ W, Below wr.heap.size wr W → W.cell? ⟨g, k * 2, none⟩ = some (.string s)) := Lib.hid (fun W hW => (hW.cell (p := ⟨g, k * 2, none⟩) (by
              show g < wr.heap.size
              have h := d0'.out
              unfold World.cell? at h
              by_cases hg : g < wr.heap.size
              · exact hg
              · rw [Array.getElem?_eq_none (by show wr.heap.size ≤ g; omega)] at h; cases h)).trans d0'.out)
            clear hs hsl hsz hsnd hrs f1 f2 f3 f4 hlg hs0 hy
            rcases hlg'.out with rfl | ⟨rfl, ht0⟩
            · go_wp2_with (first
                | (go_at_call 15; (with_reducible refine Calls.mono hrs'.out ?_); rintro e w5 ⟨rfl, hb5⟩; have e5 := hdk.out _ hb5; have hb5' := Lib.hid hb5; clear hb5)
                | fail)
              go_loopw [18] (fun x18 W => ∃ j : Nat, x18 = .int .i64 (j : Int) ∧ j ≤ s.size ∧ w5 = W) (fun x18 _ => s.size - (intOf x18).toNat)
              case atStart => exact ⟨0, rfl, Nat.zero_le _, rfl⟩
              case round =>
                obtain ⟨j, rfl, hj, rfl⟩ := hrel
                by_cases hjl : j < s.size
                · obtain ⟨n13, n10⟩ := hnoE.out j hjl
                  have hjli : (j : Int) < (s.size : Int) := by omega
                  go_wp2
                  exact ⟨⟨j + 1, by go_num, by omega, (by first | rfl | trivial)⟩, by simp [intOf]; omega⟩
                · obtain rfl : j = s.size := by omega
                  go_wp2
                  exact ⟨⟨k + 1, by go_num, by omega, below_at hbk'.out hb5'.out (by have := hbk'.out.size; omega)⟩, by simp [intOf]; omega⟩
            · have hsz0 := hs0'.out ht0
              subst hsz0
              go_wp2_with (first
                | (go_at_call 15; (with_reducible refine Calls.mono hrs'.out ?_); rintro e w5 ⟨rfl, hb5⟩; have e5 := hdk.out _ hb5; have hb5' := Lib.hid hb5; clear hb5)
                | fail)
              go_loopw [18] (fun x18 W => x18 = .int .i64 0 ∧ w5 = W) (fun _ _ => 0)
              case atStart => exact ⟨rfl, rfl⟩
              case round =>
                obtain ⟨rfl, rfl⟩ := hrel
                go_wp2
                exact ⟨⟨k + 1, by go_num, by omega, below_at hbk'.out hb5'.out (by have := hbk'.out.size; omega)⟩, by simp [intOf]; omega⟩
          · have hkli : ¬ (k : Int) < (k2 : Int) := by omega
            have hwk := Lib.hid (worksL_any wr (hT'.out.below hBk'.out) (hE'.out.below hBk'.out))
            go_wp2_with (go_at_call 29; (with_reducible refine Calls.mono hwk.out ?_); rintro e w9 ⟨rfl, hb9⟩)
            go_ret
            exact ⟨rfl, below_at hBk'.out hb9 hzk⟩
    · skip
      obtain ⟨A1, c1, rfl, _⟩ := hv'.out.shape
      obtain ⟨k1, hk1⟩ : ∃ k1, (stepC most init0 (bs.take at_)).1.length = k1 := ⟨_, rfl⟩
      rw [hk1]
      have hat1 := hv'.out.at
      rw [hk1] at hat1
      obtain ⟨A1', c1', he1, hat1⟩ := hat1
      injection he1 with he1 _ he2
      subst he1
      subst he2
      have hk1' := Lib.hid hk1
      have hrA := (hA'.out.kept (Kept.below hBW'.out (fun _ h => h))).mono (S' := (· < wr.heap.size)) (fun b hb => by have hb : b < w.heap.size := hb; show b < wr.heap.size; omega)
      have hofx := Lib.hid (ofL_yes most bs A m cap wr h1 h2 hm'.out hc (by omega) (by omega) hrA (hT'.out.below hBW'.out) (hE'.out.below hBW'.out))
      have hat1' := Lib.hid hat1
      have hgood := Lib.hid (stepC_good (init0_ok most) bs)
      have hcnt : (stepC most init0 bs).1.length ≤ 900 := by
        have := stepC_count (most := most) init0 bs
        have hz2 : init0.ws.length = 0 := rfl
        have := hm'.out
        omega
      obtain ⟨ls, hls⟩ : ∃ ls, (stepC most init0 bs).1 = ls := ⟨_, rfl⟩
      have hls' := Lib.hid hls
      rw [hls] at hcnt hgood
      clear hat1 hls hrA hk1
      obtain rfl : at_ = m := by omega
      have htk : bs.take at_ = bs := List.take_of_length_le (by have := hm'.out; omega)
      have hk1ls : k1 = ls.length := by rw [← hk1'.out, htk, hls'.out]
      have hat2 := hat1'.out
      rw [htk, hls'.out] at hat2
      have hat2' := Lib.hid hat2
      have hk1ls' := Lib.hid hk1ls
      have hlti : ¬ (at_ : Int) < (at_ : Int) := by omega
      clear hat2 htk hk1ls
      go_wp2_with fail
      refine hofx.out.mono ?_
      rintro e w2 ⟨v2, rfl, q1, q2⟩
      rw [hls'.out] at q1
      obtain ⟨A2, c2, rfl, q5⟩ := q1.at
      obtain ⟨k2, hk2⟩ : ∃ k2, ls.length = k2 := ⟨_, rfl⟩
      rw [hk2]
      have hk2' := Lib.hid hk2.symm
      have hk2b : k2 ≤ 900 := by omega
      have z2 := q2.size
      have q5' := Lib.hid q5
      have hB2' := Lib.hid (below_at hBW'.out q2 hzw)
      have hz2w := hB2'.out.size
      obtain rfl : k1 = k2 := by rw [hk1ls'.out, hk2]
      have hsm := Lib.hid (sameLn_yes A1 A2 ls k1 c1 c2 w2 hk2'.out (hat2'.out.below q2) q5 (fun x hx => by have := (hgood.out x hx).2.2.1; omega) (by omega))
      have hk2e := Lib.hid (show k1 = k1 from rfl)
      clear q1 q2 hk2
      go_wp2_with (first
        | (go_at_call 34; (with_reducible refine Calls.mono (numLn_any _ _) ?_); rintro e w' ⟨rfl, rfl⟩)
        | (go_at_call 33; (with_reducible refine Calls.mono hsm.out ?_); rintro e w3 ⟨rfl, hb3⟩; have hb3' := Lib.hid hb3; clear hb3))
      have q5' := Lib.hid (q5'.out.below hb3'.out)
      have hB2' := Lib.hid (below_at hB2'.out hb3'.out hz2w)
      have hz2w := hB2'.out.size
      go_loopw [17] (fun x17 W => ∃ k : Nat, x17 = .int .i64 (k : Int) ∧ k ≤ k1 ∧ Below w3.heap.size w3 W) (fun x17 _ => k1 - (intOf x17).toNat)
      case atStart => exact ⟨0, rfl, Nat.zero_le _, Below.refl _ _⟩
      case round =>
        obtain ⟨k, rfl, hk, hbk⟩ := hrel
        have hbk' := Lib.hid hbk
        have hBk' := Lib.hid (below_at hB2'.out hbk hz2w)
        have hzk := hBk'.out.size
        clear hbk
        by_cases hkl : k < k1
        · have hkli : (k : Int) < (k1 : Int) := by omega
          obtain ⟨y, hy⟩ : ∃ y, ls[k]? = some y := ⟨ls[k]'(by have := hk2'.out; omega), List.getElem?_eq_getElem (by have := hk2'.out; omega)⟩
          obtain ⟨t, lg⟩ := y
          obtain ⟨f1, f2, f3, f4⟩ := hgood.out _ (List.mem_of_getElem? hy)
          simp only at f1 f2 f3 f4
          obtain ⟨g, hgA, _, d0, d1⟩ := (q5'.out.below hbk'.out) k _ hy
          subst hgA
          simp only at d0 d1
          have hlg : lg = false ∨ (lg = true ∧ t = []) := by cases lg with
            | false => exact .inl rfl
            | true => exact .inr ⟨rfl, f4 rfl⟩
          obtain ⟨s, hs⟩ : ∃ s : ByteArray, (⟨t.toArray⟩ : ByteArray) = s := ⟨_, rfl⟩
          have hsl : s.data.toList = t := by rw [← hs]
          have hsz : s.size = t.length := by rw [← hs]; show t.toArray.size = _; simp
          have hsm2 : ¬ (most : Int) < (s.size : Int) := by omega
          have hsb : s.size ≤ 65536 := by omega
          have hsnd : soundB s.data.toList = true := by rw [hsl]; unfold soundB; rw [decide_eq_true_eq]; exact f1
          have hrs := refSound_any s wr (by omega)
          rw [hsnd] at hrs
          rw [hs] at d0
          have hnoE := Lib.hid (show ∀ j (h : j < s.size), ((s[j].toNat : Int) == 13) = false ∧ ((s[j].toNat : Int) == 10) = false from fun j h => by
            have hj : j < s.data.toList.length := by simpa using h
            have hm : s.data.toList[j] ∈ t := by rw [← hsl]; exact List.getElem_mem hj
            have he : s[j] = s.data.toList[j] := rfl
            have := f2 _ hm
            rw [he]
            refine ⟨by rw [beq_eq_false_iff_ne]; intro e; exact this.1 (UInt8.toNat_inj.1 (by show _ = 13; omega)), by rw [beq_eq_false_iff_ne]; intro e; exact this.2 (UInt8.toNat_inj.1 (by show _ = 10; omega))⟩)
          have hs0 : t = [] → s = ⟨#[]⟩ := fun e => by rw [← hs, e]
          have d0' := Lib.hid d0
          have hrs' := Lib.hid hrs
          have hlg' := Lib.hid hlg
          have hs0' := Lib.hid hs0
          have hdk : Hid (∀ W, Below wr.heap.size wr W → W.cell? ⟨g, k * 2, none⟩ = some (.string s)) := Lib.hid (fun W hW => (hW.cell (p := ⟨g, k * 2, none⟩) (by
            show g < wr.heap.size
            have h := d0'.out
            unfold World.cell? at h
            by_cases hg : g < wr.heap.size
            · exact hg
            · rw [Array.getElem?_eq_none (by show wr.heap.size ≤ g; omega)] at h; cases h)).trans d0'.out)
          clear hs hsl hsz hsnd hrs f1 f2 f3 f4 hlg hs0 hy
          rcases hlg'.out with rfl | ⟨rfl, ht0⟩
          · go_wp2_with (first
              | (go_at_call 15; (with_reducible refine Calls.mono hrs'.out ?_); rintro e w5 ⟨rfl, hb5⟩; have e5 := hdk.out _ hb5; have hb5' := Lib.hid hb5; clear hb5)
              | fail)
            go_loopw [18] (fun x18 W => ∃ j : Nat, x18 = .int .i64 (j : Int) ∧ j ≤ s.size ∧ w5 = W) (fun x18 _ => s.size - (intOf x18).toNat)
            case atStart => exact ⟨0, rfl, Nat.zero_le _, rfl⟩
            case round =>
              obtain ⟨j, rfl, hj, rfl⟩ := hrel
              by_cases hjl : j < s.size
              · obtain ⟨n13, n10⟩ := hnoE.out j hjl
                have hjli : (j : Int) < (s.size : Int) := by omega
                go_wp2
                exact ⟨⟨j + 1, by go_num, by omega, (by first | rfl | trivial)⟩, by simp [intOf]; omega⟩
              · obtain rfl : j = s.size := by omega
                go_wp2
                exact ⟨⟨k + 1, by go_num, by omega, below_at hbk'.out hb5'.out (by have := hbk'.out.size; omega)⟩, by simp [intOf]; omega⟩
          · have hsz0 := hs0'.out ht0
            subst hsz0
            go_wp2_with (first
              | (go_at_call 15; (with_reducible refine Calls.mono hrs'.out ?_); rintro e w5 ⟨rfl, hb5⟩; have e5 := hdk.out _ hb5; have hb5' := Lib.hid hb5; clear hb5)
              | fail)
            go_loopw [18] (fun x18 W => x18 = .int .i64 0 ∧ w5 = W) (fun _ _ => 0)
            case atStart => exact ⟨rfl, rfl⟩
            case round =>
              obtain ⟨rfl, rfl⟩ := hrel
              go_wp2
              exact ⟨⟨k + 1, by go_num, by omega, below_at hbk'.out hb5'.out (by have := hbk'.out.size; omega)⟩, by simp [intOf]; omega⟩
        · have hkli : ¬ (k : Int) < (k1 : Int) := by omega
          have hwk := Lib.hid (worksL_any wr (hT'.out.below hBk'.out) (hE'.out.below hBk'.out))
          go_wp2_with (go_at_call 29; (with_reducible refine Calls.mono hwk.out ?_); rintro e w9 ⟨rfl, hb9⟩)
          go_ret
          exact ⟨rfl, below_at hBk'.out hb9 hzk⟩
end Go.Proofs.YthdmmlaahjgijaaDoor
