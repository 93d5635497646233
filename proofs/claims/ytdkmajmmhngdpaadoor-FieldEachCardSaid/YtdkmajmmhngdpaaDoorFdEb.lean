import Derived.Test.YtdkmajmmhngdpaaDoorFdEa
import Derived.Test.YtdkmajmmhngdpaaDoorFdV
import Derived.Test.YtdkmajmmhngdpaaDoorFdEc
namespace Go.Proofs.YtdkmajmmhngdpaaDoor
open Go.RowKit Go.Shelf
attribute [local go_sem] Oper.semAt_some
attribute [local go_sem] wide_fn wide_depth wide_round

/-! ## The law of Each -/
/-- What stands while the lines are looked at. -/
structure LookS (w : World) (A : Option Addr) (n c : Nat) (m : Int) (ls : List (List UInt8)) (k : Nat) (wr : World) : Prop where
  b2 : Has wr w.heap.size 47 #[.slice A n c]
  b3 : Has wr (w.heap.size + 1) 3 #[.int .i64 m]
  b4 : Has wr (w.heap.size + 1 + 1) 4 #[.bool false]
  at' : ∃ v, Has wr (w.heap.size + 1 + 1 + 1) 48 #[v] ∧ OwnI wr (w.heap.size + 1 + 1 + 1 + 1) v ((List.range k).filter (cnt ls))
  few : ∀ (j : Nat) (y : List UInt8), j < k → ls[j]? = some y → y.length ≤ 100
  be : Below w.heap.size w wr
theorem Has.grownN {X Y : World} {k n0 : Nat} {t : TypeId} {cs : Array Value} {v : Value} (h : Has X k t cs) (hg : X.grownBy Y v.ownBlock) (hown : ∀ g, v.ownBlock = some g → n0 ≤ g) (hk : k < n0) : Has Y k t cs :=
  (hg.block k h.lt (fun e => by have := hown k e.symm; omega)).trans h
theorem range_cnt (ls : List (List UInt8)) (k : Nat) : (List.range (k + 1)).filter (cnt ls) = (List.range k).filter (cnt ls) ++ if cnt ls k = true then [k] else [] := by
  rw [List.range_succ, List.filter_append]
  cases h : cnt ls k <;> simp [h]
theorem ArgS.below {w W : World} {A : Option Addr} {ls : List (List UInt8)} (h : ArgS w A ls) (hb : Below w.heap.size w W) : ArgS W A ls := fun h0 => by
  obtain ⟨b, off, e, hlt, hc⟩ := h h0
  exact ⟨b, off, e, Nat.lt_of_lt_of_le hlt hb.size, fun j y hj => (hb.cell (p := ⟨b, off + j, none⟩) hlt).trans (hc j y hj)⟩
theorem OwnI.shape {W : World} {n0 : Nat} {v : Value} {l : List Nat} (h : OwnI W n0 v l) : ∃ A c, v = .slice A l.length c ∧ (0 < l.length → ∃ g cur, A = some ⟨g, 0, none⟩ ∧ n0 ≤ g ∧ Has W g 3 cur ∧ ∀ (j p : Nat), l[j]? = some p → cur[j]? = some (Value.int .i64 (p : Int))) := by
  rcases h.2 with ⟨rfl, h0⟩ | ⟨b, cap, cur, rfl, hb', hh, _, _, _, htk⟩
  · rw [h0]; exact ⟨none, 0, rfl, fun h => by omega⟩
  · refine ⟨_, _, rfl, fun _ => ⟨b, cur, rfl, hb', hh, fun j p hj => ?_⟩⟩
    have hjn : j < l.length := (List.getElem?_eq_some_iff.1 hj).1
    have := congrArg (fun l => l[j]?) htk
    simp only [Nat.mul_one, List.getElem?_take, if_pos hjn, intsN, List.getElem?_map, hj, Option.map_some, Array.getElem?_toList] at this
    exact this
set_option maxRecDepth 100000 in
set_option maxHeartbeats 4000000 in
theorem lawEachF (A : Option Addr) (n c : Nat) (m : Int) (ls : List (List UInt8)) (w : World) (hn : n = ls.length) (hA : ArgS w A ls) (hN : NamesT w) (hM : MaxT w) (hT : Tab w) (hl : n ≤ 20) :
    Calls Tryd.prog 7 #[.slice A n c, .int .i64 m] w fun e w' => e = .returned (.bool true) ∧ Below w.heap.size w w' := by
  have hwk := Lib.hid (fun W (hb : Below w.heap.size w W) => carry w W hb (worksF_any W (hN.below hb) (hM.below hb) (hT.below hb)))
  have hn' := Lib.hid hn
  have hA' := Lib.hid hA
  have hN' := Lib.hid hN
  have hM' := Lib.hid hM
  have hT' := Lib.hid hT
  have hlI : (n : Int) ≤ 20 := by omega
  clear hN hM hT hn hA
  refine (callsIn_wide (n := 3)).1 ?_
  refine callsIn_of_wp_marks Tryd.func7 rfl trivial ?_ rfl
  refine wpIn_wide.2 ?_
  simp only [Tryd.ntmps7, List.size_toArray, List.length_cons, List.length_nil, Nat.reduceAdd, Nat.reduceSub, Array.replicate_succ, Array.replicate_zero, List.push_toArray, List.append_toArray, List.nil_append, List.cons_append]
  go_wp2_with fail
  have hb4 : Below w.heap.size w ((((w.alloc (.cells #[.slice A n c] 47)).alloc (.cells #[.int .i64 m] 3)).alloc (.cells #[.bool false] 4)).alloc (.cells #[.slice none 0 0] 48)) := ((((Below.refl _ _).alloc (Nat.le_refl _) _).alloc (by simp) _).alloc (by simp; omega) _).alloc (by simp; omega) _
  have k2 := (((Has.new w 47 #[.slice A n c]).alloc (.cells #[.int .i64 m] 3)).alloc (.cells #[.bool false] 4)).alloc (.cells #[.slice none 0 0] 48)
  have k3 := ((Has.new (w.alloc (.cells #[.slice A n c] 47)) 3 #[.int .i64 m]).alloc (.cells #[.bool false] 4)).alloc (.cells #[.slice none 0 0] 48)
  have k4 := (Has.new ((w.alloc (.cells #[.slice A n c] 47)).alloc (.cells #[.int .i64 m] 3)) 4 #[.bool false]).alloc (.cells #[.slice none 0 0] 48)
  have k5 := Has.new (((w.alloc (.cells #[.slice A n c] 47)).alloc (.cells #[.int .i64 m] 3)).alloc (.cells #[.bool false] 4)) 48 #[.slice none 0 0]
  simp only [World.size_alloc] at k3 k4 k5
  have hLook : LookS w A n c m ls 0 ((((w.alloc (.cells #[.slice A n c] 47)).alloc (.cells #[.int .i64 m] 3)).alloc (.cells #[.bool false] 4)).alloc (.cells #[.slice none 0 0] 48)) :=
    ⟨k2, k3, k4, ⟨_, k5, OwnI.nil _ _⟩, fun j y h => absurd h (Nat.not_lt_zero _), hb4⟩
  have hLook' := Lib.hid hLook
  clear hb4 k2 k3 k4 k5 hLook
  go_loopw [6] (fun x wr => ∃ k : Nat, k ≤ n ∧ x = .int .i64 (k : Int) ∧ LookS w A n c m ls k wr) (fun x _ => n - (intOf x).toNat)
  case atStart => exact ⟨0, Nat.zero_le _, rfl, hLook'.out⟩
  case round =>
    obtain ⟨k, hk, rfl, hS⟩ := hrel
    have hS' := Lib.hid hS
    obtain ⟨b2, b3, b4, ⟨v5, b5, o5⟩, few, be⟩ := hS
    have c2 := b2.cell 0
    have c5 := b5.cell 0
    have f4 := b4.free 0
    have c4 := b4.cell 0
    have f5 := b5.free 0
    have hbs := be.size
    by_cases hlt : k < n
    · have hltI : (k : Int) < (n : Int) := by omega
      obtain ⟨y, hy⟩ : ∃ y, ls[k]? = some y := ⟨ls[k]'(by have := hn'.out; omega), List.getElem?_eq_getElem _⟩
      obtain ⟨ab, ao, rfl, hab, hac⟩ := hA'.out (by have := hn'.out; omega)
      have ck := (be.cell (p := ⟨ab, ao + k, none⟩) hab).trans (hac k y hy)
      by_cases hyl : y.length ≤ 100
      · have hgd : ls.getD k [] = y := by rw [List.getD_eq_getElem?_getD, hy]; rfl
        have hcn : cnt ls k = countsF (fieldF y) := by unfold cnt; rw [hgd]
        have hyI : (y.length : Int) ≤ 100 := by omega
        have hro := refOfF_any y wr (by omega)
        have hfl := fieldF_len y
        have hrc := fun W => refCountsF_any (fieldF y) W (fieldF_wf y) (by omega) (by omega)
        rw [← hcn] at hrc
        have hrs := range_cnt ls k
        have hfew := Lib.hid (fun (j : Nat) (z : List UInt8) (hj : j < k + 1) (hz : ls[j]? = some z) => show z.length ≤ 100 from by
          rcases Nat.lt_or_ge j k with h | h
          · exact few j z h hz
          · obtain rfl : j = k := by omega
            rw [hy] at hz
            rw [← Option.some.inj hz]; exact hyl)
        unfold fieldV at hrc
        generalize fieldF y = f at hro hrc
        obtain ⟨ki, nm, vl⟩ := f
        simp only at hro hrc
        have hro' := Lib.hid hro
        have hrc' := Lib.hid hrc
        have b2' := Lib.hid b2
        have b3' := Lib.hid b3
        have b4' := Lib.hid b4
        have b5' := Lib.hid b5
        have o5' := Lib.hid o5
        have be' := Lib.hid be
        have hyl2 := Lib.hid hyl
        have hlk := Lib.hid (show ((List.range k).filter (cnt ls)).length ≤ k from Nat.le_trans (List.length_filter_le _ _) (by simp))
        clear b2 b3 b4 b5 o5 few be hac hy hyl hgd hcn hfl hro hrc
        cases hc : cnt ls k with
        | false =>
          rw [hc] at hrc' hrs
          rw [if_neg (by decide), List.append_nil] at hrs
          have hrs' := Lib.hid hrs
          clear hc hrs
          go_wp2_with (first
            | (go_at_call 25; (with_reducible refine Calls.mono hro'.out ?_); rintro e w2 ⟨rfl, hb2⟩; have hb2' := Lib.hid hb2; clear hb2)
            | (go_at_call 30; (with_reducible refine Calls.mono (hrc'.out _) ?_); rintro e w3 ⟨rfl, hb3⟩; have hb3' := Lib.hid (below_chain hb2'.out hb3); clear hb3))
          refine ⟨⟨k + 1, by omega, by go_num, b2'.out.below hb3'.out b2'.out.lt, b3'.out.below hb3'.out b3'.out.lt, b4'.out.below hb3'.out b4'.out.lt, ⟨v5, b5'.out.below hb3'.out b5'.out.lt, by rw [hrs'.out]; exact o5'.out.below hb3'.out⟩, hfew.out, be'.out.trans (hb3'.out.mono be'.out.size)⟩, by simp [intOf]; omega⟩
        | true =>
          rw [hc] at hrc' hrs
          rw [if_pos rfl] at hrs
          have hrs' := Lib.hid hrs
          clear hc hrs
          have z5 := b5'.out.lt
          go_wp2_with (first
            | (go_at_call 25; (with_reducible refine Calls.mono hro'.out ?_); rintro e w2 ⟨rfl, hb2⟩; have hb2' := Lib.hid hb2; clear hb2)
            | (go_at_call 30; (with_reducible refine Calls.mono (hrc'.out _) ?_); rintro e w3 ⟨rfl, hb3⟩; have hb3' := Lib.hid (below_chain hb2'.out hb3); have b53 := b5'.out.below hb3'.out b5'.out.lt; have c53 := b53.cell 0; have hal := Lib.hid (((Below.refl w3.heap.size w3).alloc (Nat.le_refl _) (.cells #[.int .i64 (k : Int)] 3))); have o53 := Lib.hid ((o5'.out.below hb3'.out).below hal.out); have hnew := Lib.hid (Has.new w3 3 #[.int .i64 (k : Int)]); have z3 := hb3'.out.size; clear hb3 b53)
            | (at_builtin; refine wpList_append_int rfl _ _ rfl rfl o53.out _ k rfl hnew.out (by have := hlk.out; omega) (by simp; omega) ?_; intro v4 w4 ho4 hg4; obtain ⟨A4, c4, hv4, _⟩ := ho4.shape; obtain ⟨N4, hN4⟩ : ∃ N4, ((List.range k).filter (cnt ls) ++ [k]).length = N4 := ⟨_, rfl⟩; rw [hN4] at hv4; subst hv4; clear hN4; have ho4' := Lib.hid ho4; have hg4' := Lib.hid hg4; have b54 := ((b5'.out.below hb3'.out b5'.out.lt).below hal.out (by omega)).grownN hg4 o53.out.own (Nat.lt_succ_self _); have c54 := b54.cell 0; have f54 := b54.free 0; have b54' := Lib.hid b54; clear ho4 hg4 b54))
          have b24 := ((b2'.out.below hb3'.out b2'.out.lt).below hal.out (by omega)).grownN hg4'.out o53.out.own (by omega)
          have b34 := ((b3'.out.below hb3'.out b3'.out.lt).below hal.out (by omega)).grownN hg4'.out o53.out.own (by omega)
          have b44 := ((b4'.out.below hb3'.out b4'.out.lt).below hal.out (by omega)).grownN hg4'.out o53.out.own (by omega)
          have be4 : Below w.heap.size w w4 := ((be'.out.trans (hb3'.out.mono be'.out.size)).trans (hal.out.mono (by omega))).grown hg4'.out (by simp; omega) (fun g e => by have := o53.out.own g e; omega)
          refine ⟨⟨k + 1, by omega, by go_num, b24.other (by omega) _, b34.other (by omega) _, b44.other (by omega) _, ⟨_, by simpa using b54'.out.put 0 (.slice A4 N4 c4), by rw [hrs'.out]; exact ho4'.out.setCell (Nat.lt_succ_self _) _⟩, hfew.out, be4.setCell (p := ⟨w.heap.size + 1 + 1 + 1, 0, none⟩) (by simp; omega) _⟩, by simp [intOf]; omega⟩
      · have hyl' : (100 : Int) < (y.length : Int) := by omega
        have b4' := Lib.hid b4
        have be' := Lib.hid be
        clear b2 b3 b4 b5 o5 few be hac hy hyl
        go_wp2_with ((go_at_call 23; (with_reducible refine Calls.mono (hwk.out _ be'.out) ?_); rintro e w9 ⟨rfl, hl9, hb9⟩; have g9 := b4'.out.below hl9 b4'.out.lt; have e9 := g9.cell 0; have f9 := g9.free 0; have g10 := (g9.put 0 (.bool true)).cell 0; have hb10 := Lib.hid (hb9.setCell (p := ⟨w.heap.size + 1 + 1, 0, none⟩) (by simp; omega) (.bool true)); clear hl9 hb9))
        refine ⟨.bool true, ?_, rfl, hb10.out⟩
        simp [results, Tryd.results7, go_sem, g10]
    · obtain rfl : n = k := by omega
      clear c2 c5 f4 c4 f5 hLook'
      have hls : ∀ y ∈ ls, y.length ≤ 1000 := fun y hy => by
        obtain ⟨j, hj, rfl⟩ := List.getElem_of_mem hy
        have := few j _ (by have := hn'.out; omega) (List.getElem?_eq_getElem hj)
        omega
      have hcl : (List.range n).filter (cnt ls) = cls ls := by unfold cls; rw [← hn'.out]
      rw [hcl] at o5
      have hNl : (cls ls).length ≤ n := by rw [← hcl]; exact Nat.le_trans (List.length_filter_le _ _) (by simp)
      obtain ⟨A5, c5, hv5, hcur⟩ := o5.shape
      obtain ⟨N, hNe⟩ : ∃ N, (cls ls).length = N := ⟨_, rfl⟩
      rw [hNe] at hv5 hcur hNl
      subst hv5
      have hea := Lib.hid (eachF_any A n c ls wr hn'.out hl (hA'.out.below be) hls (hN'.out.below be) (hM'.out.below be) (hT'.out.below be))
      have hls' := Lib.hid hls
      have hNe' := Lib.hid hNe
      have hcur' := Lib.hid hcur
      have b2' := Lib.hid b2
      have b3' := Lib.hid b3
      have b4' := Lib.hid b4
      have b5' := Lib.hid b5
      have be' := Lib.hid be
      have c2 := b2.cell 0
      clear hcl hls hNe hcur b2 b3 b4 b5 o5 few be hS' hlt
      go_wp2_with fail
      refine hea.out.mono ?_
      rintro e w5 ⟨bP, g, A', c', cur, rfl, hE5, hbP, hg, hbPl, hgl, hb5⟩
      have z5 := hb5.size
      have hb05 : Below w.heap.size w w5 := be'.out.trans (hb5.mono be'.out.size)
      have d2 := Lib.hid (b2'.out.below hb5 b2'.out.lt)
      have d3 := Lib.hid (b3'.out.below hb5 b3'.out.lt)
      have d4 := Lib.hid (b4'.out.below hb5 b4'.out.lt)
      have d5 := Lib.hid (b5'.out.below hb5 b5'.out.lt)
      have hcur5 : Hid (0 < N → ∃ g5 cur5, A5 = some ⟨g5, 0, none⟩ ∧ Has w5 g5 3 cur5 ∧ ∀ (j p : Nat), (cls ls)[j]? = some p → cur5[j]? = some (Value.int .i64 (p : Int))) := Lib.hid (fun h => by
        obtain ⟨g5, cur5, rfl, _, hh, hc⟩ := hcur'.out h
        exact ⟨g5, cur5, rfl, hh.below hb5 hh.lt, hc⟩)
      have hE5' := Lib.hid hE5
      have hb05' := Lib.hid hb05
      have hbP' := Lib.hid hbP
      have hg' := Lib.hid hg
      have hz5w := Lib.hid (show w.heap.size + 1 + 1 + 1 < wr.heap.size from b5'.out.lt)
      have hlast := Lib.hid (b4'.out.lt)
      clear hE5 hb5 hb05 hbP hg hea hcur' b2' b3' b4' b5' be' c2 z5 hbs
      have hnil : ∀ (fn : Fn) (f c : Array Value) (w : World), Sem.run Tryd.prog (binOp BinOp.eql 50 (Value.func fn f c) Value.nilFunc) w = .ok (.bool false) w := fun _ _ _ _ => by kernel_rfl
      go_wp2
      clear hnil
      refine (wpIn_wide (n := 3)).1 ?_
      refine wpIn_loop_rounds 3 ?_
      rw [roundsIn_succ]
      have q4 := (Has.new w5 3 #[.int .i64 0]).alloc (.cells #[.int .i64 0] 3)
      have q5 := Has.new (w5.alloc (.cells #[.int .i64 0] 3)) 3 #[.int .i64 0]
      have hb6 : Below w5.heap.size w5 ((w5.alloc (.cells #[.int .i64 0] 3)).alloc (.cells #[.int .i64 0] 3)) := ((Below.refl _ _).alloc (Nat.le_refl _) _).alloc (by simp) _
      simp only [World.size_alloc] at q5
      have hFM := Lib.hid (show FeM w5 w5.heap.size (w5.heap.size + 1) 0 [] 0 ((w5.alloc (.cells #[.int .i64 0] 3)).alloc (.cells #[.int .i64 0] 3)) from ⟨q4, q5, fun _ h => (List.not_mem_nil h).elim, hb6⟩)
      clear q4 q5 hb6
      gi_wp2
      obtain ⟨w6, hw6⟩ : ∃ w6, (w5.alloc (.cells #[.int .i64 0] 3)).alloc (.cells #[.int .i64 0] 3) = w6 := ⟨_, rfl⟩
      have z6 : w6.heap.size = w5.heap.size + 1 + 1 := by rw [← hw6]; simp
      rw [hw6] at hFM ⊢
      clear hw6
      have hE6 := hE5'.out.below hFM.out.be
      have hNm := (hN'.out.below hb05'.out).lt
      have hTb := (hT'.out.below hb05'.out).lt
      obtain ⟨mm, hmm⟩ := hM'.out.below hb05'.out
      have hMl := hmm.lt
      clear hmm
      refine wpIn_range_ownB 4 (gf := 64) (lb := #[.pointer (some ⟨bP, 0, none⟩)]) rfl (enters_of Tryd.func64 (by kernel_rfl) rfl)
        (eachF_stops ls bP g n c' A' cur (by omega) (fun j => j = w5.heap.size + 1) ⟨by omega, by omega, by omega, by omega, by omega⟩ w6 (fun j hj => by omega) hE6)
        (fun h k => h.trans k) (fun W l o o' _ h1 h2 _ => KeepW.putObj W l o o' h1 h2) (Below.refl _ _) (fun _ => rfl)
        (FeI ls w5 m w5.heap.size (w5.heap.size + 1) 0 []) (FeX ls w5 m w5.heap.size (w5.heap.size + 1) 0 []) (FeM w5 w5.heap.size (w5.heap.size + 1) 0 [] (feCount m N 0))
        (feI_from ls w5 m _ _ 0 [] _ (fun _ h => (List.not_mem_nil h).elim) (by omega)) (feX_from ls w5 m _ _ 0 [] _ (fun _ h => (List.not_mem_nil h).elim) (by omega))
        ⟨⟨⟨rfl, Nat.zero_le _⟩, fun _ => .inl rfl⟩, hFM.out⟩ (fun _ _ h1 h2 => by have := fe_all (by rw [hn'.out] at h1; exact h1) h2; rwa [hNe'.out] at this) (fun _ _ _ h1 h2 => by have := fe_left (by rw [hn'.out] at h1; exact h1) h2; rwa [hNe'.out] at this)
        (AxB ?Fx0 37 (fun k => #[.int .i64 (tellS ls k).2.1, .string ⟨(tellS ls k).2.2.1.toArray⟩, .string ⟨(tellS ls k).2.2.2.toArray⟩])) axB_from ?assign0 ?body0 (fun _ _ h => h) ?rest0
      case assign0 =>
        intro l1 pre x V K hI hK
        have hK' := Lib.hid hK
        have hI' := Lib.hid hI
        clear hK hI
        dsimp only [encK, encFd]
        have hx : (tellS ls x).1 = x := rfl
        rw [hx]
        clear hx
        have hnew := Lib.hid (Has.new V 37 #[.int .i64 (tellS ls x).2.1, .string ⟨(tellS ls x).2.2.1.toArray⟩, .string ⟨(tellS ls x).2.2.2.toArray⟩])
        gi_wp2
        obtain ⟨k, hk⟩ : ∃ k, V.heap.size = k := ⟨_, rfl⟩
        have hn2 := hnew.out
        rw [hk] at hn2 ⊢
        refine hK'.out _ _ ((KeepsOthers.alloc _ _).from _) (KeepW.below ((Below.refl _ _).alloc (Nat.le_refl _) _)) ⟨hI'.out.1, hI'.out.2.below ((Below.refl _ _).alloc (Nat.le_refl _) _)⟩ ⟨k, ?_, hn2⟩
        rfl
      case body0 =>
        rintro l1 pre x a' V ⟨⟨hfit, hcond⟩, hM⟩ ⟨kb, rfl, hk⟩ hlen
        have hk : Has V kb 37 #[.int .i64 (tellS ls x).2.1, .string ⟨(tellS ls x).2.2.1.toArray⟩, .string ⟨(tellS ls x).2.2.2.toArray⟩] := hk
        have hM' := Lib.hid hM
        have hbV := hM.be
        have hup : ∀ {k t cs}, Has w5 k t cs → ∀ V' : Grown V, Has V'.v k t cs := fun h V' => (h.below hbV h.lt).below V'.below (by have := h.lt; have := hbV.size; omega)
        have q9 := fun (V' : Grown V) => (hM.bk.below V'.below hM.bk.lt).cell 0
        have q8 := fun (V' : Grown V) => (hM.bT.below V'.below hM.bT.lt).cell 0
        have q5 := fun (V' : Grown V) => (hup d5.out V').cell 0
        have q2 := fun (V' : Grown V) => (hup d2.out V').cell 0
        have q3 := fun (V' : Grown V) => (hup d3.out V').cell 0
        have q4 := fun (V' : Grown V) => (hup d4.out V').cell 0
        have q4f := fun (V' : Grown V) => (hup d4.out V').free 0
        have q9f := fun (V' : Grown V) => (hM.bk.below V'.below hM.bk.lt).free 0
        have x0 := fun (V' : Grown V) => (hk.below V'.below hk.lt).cell 0
        have x1 := fun (V' : Grown V) => (hk.below V'.below hk.lt).cell 1
        have x2 := fun (V' : Grown V) => (hk.below V'.below hk.lt).cell 2
        have hfit' := Lib.hid hfit
        have hcond' := Lib.hid hcond
        have hl1 : Hid ((pre ++ [x]).length = pre.length + 1) := Lib.hid (by simp)
        obtain ⟨pl, hple⟩ : ∃ pl, pre.length = pl := ⟨_, rfl⟩
        have hple' := Lib.hid hple
        have e1 : Hid (((pre ++ [x]).length : Int) = (pl : Int) + 1) := Lib.hid (by rw [hl1.out, hple]; rfl)
        have hz3 : w.heap.size + 1 < w5.heap.size := d3.out.lt
        rw [hple] at q9
        have hfl := hfit.2
        rw [hNe'.out, hple] at hfl
        by_cases hlt : pl < N
        · obtain ⟨g5, cur5, rfl, hg5, hc5⟩ := hcur5.out (by omega)
          obtain ⟨p, hp⟩ : ∃ p, (cls ls)[pl]? = some p := ⟨(cls ls)[pl]'(by rw [hNe'.out]; exact hlt), List.getElem?_eq_getElem _⟩
          have q5c := fun (V' : Grown V) => ((hup hg5 V').cell pl).trans (hc5 pl p hp)
          have hli2 : (pl : Int) < (N : Int) := by omega
          have hli3 : decide (N ≤ pl) = false := decide_eq_false (by omega)
          have hpn := cls_lt hp
          by_cases hxp : x = p
          · subst hxp
            have hxn : x < n := by have := hn'.out; omega
            have hxnI : (x : Int) < (n : Int) := by omega
            obtain ⟨y, hy⟩ : ∃ y, ls[x]? = some y := ⟨ls[x]'hpn, List.getElem?_eq_getElem _⟩
            obtain ⟨ab, ao, rfl, hab, hac⟩ := hA'.out (by omega)
            have hac5 := fun (V' : Grown V) => ((((hb05'.out.trans (hbV.mono hb05'.out.size)).trans (V'.below.mono (by have := hb05'.out.size; have := hbV.size; omega))).cell (p := ⟨ab, ao + x, none⟩) hab).trans (hac x y hy))
            have hyl := hls'.out y (List.mem_of_getElem? hy)
            have hro := fun (V' : Grown V) => (CallsIn.inRound l1 (callsIn_wide (n := 3 - 1 - 1 - 1).2 ((refOfF_any y V'.v (by omega)).mono (R' := fun e w'' => e = .returned (.agg #[.int .i64 (fieldF y).1, .string ⟨(fieldF y).2.1.toArray⟩, .string ⟨(fieldF y).2.2.toArray⟩]) ∧ ∃ V'' : Grown V, w'' = V''.v) (fun e w'' h => ⟨h.1, ⟨w'', V'.below.trans (h.2.mono V'.below.size)⟩, rfl⟩))))
            have hfl2 := fieldF_len y
            have heq := fun W => field_equal (fieldF y) (fieldF y) (fieldF_wf y) (fieldF_wf y) (by omega) (by omega) (by omega) (by omega) W
            have htl : tellS ls x = (x, fieldF y) := by unfold tellS; rw [List.getD_eq_getElem?_getD, hy]; rfl
            rw [htl] at x0 x1 x2
            have hp' := Lib.hid hp
            have hro' := Lib.hid hro
            clear hro hfl2 htl hy hac hp hc5 hfit hcond hk hfl hple hlen hyl
            generalize fieldF y = f at heq hro' x0 x1 x2
            obtain ⟨ki, nm, vl⟩ := f
            simp only [fieldV, decide_true] at heq hro' x0 x1 x2
            have hnx := Lib.hid (fitN_next hfit'.out (by rw [hple'.out, hp'.out]))
            have hM9 := Lib.hid (fun (V' : Grown V) => (hM'.out.below V'.below).count (by omega) (by omega) ((pl : Int) + 1))
            clear hM hbV
            by_cases hm : m ≤ (pl : Int) + 1
            · gi_wp2
              refine wpIn_region_grow (by kernel_rfl) (by kernel_rfl) (by kernel_rfl) ?_
              iterate 21 (gi_big_quiet_step ((gi_at_call 25; exact hro'.out _)))
              refine wpQuietIn_nil ?_
              intro _ hw'
              obtain ⟨V', hw''⟩ := hw'
              subst hw''
              have y4 := q4 V'
              have y4f := q4f V'
              have y9 := q9 V'
              have y9f := q9f V'
              have y8 := q8 V'
              have y3 := q3 V'
              clear q9 q8 q5 q2 q3 q4 q4f q9f q5c hup hac5 x0 x1 x2
              gi_wp2
              refine ⟨((others_below V'.below).trans (KeepsOthers.setCell _ _ _)).from _, .inr ⟨rfl, rfl, hnx.out, by rw [e1.out]; exact hm, ?_, by rw [hl1.out]; omega, by rw [e1.out]; exact hM9.out V'⟩⟩
              rw [e1.out, hl1.out]
              have := hcond'.out trivial
              rw [hple'.out] at this
              have := hple'.out
              omega
            · gi_wp2
              refine wpIn_region_grow (by kernel_rfl) (by kernel_rfl) (by kernel_rfl) ?_
              iterate 21 (gi_big_quiet_step ((gi_at_call 25; exact hro'.out _)))
              refine wpQuietIn_nil ?_
              intro _ hw'
              obtain ⟨V', hw''⟩ := hw'
              subst hw''
              have y4 := q4 V'
              have y4f := q4f V'
              have y9 := q9 V'
              have y9f := q9f V'
              have y8 := q8 V'
              have y3 := q3 V'
              clear q9 q8 q5 q2 q3 q4 q4f q9f q5c hup hac5 x0 x1 x2
              gi_wp2
              refine ⟨((others_below V'.below).trans (KeepsOthers.setCell _ _ _)).from _, KeepW.setCell (Wr := fun j => j = w5.heap.size + 1) (KeepW.below V'.below) (p := ⟨w5.heap.size + 1, 0, none⟩) rfl _, ⟨hnx.out, fun _ => .inr (by rw [e1.out]; omega)⟩, by rw [e1.out]; exact hM9.out V'⟩
          · have hxI : ((x : Int) != (p : Int)) = true := by rw [bne_iff_ne]; omega
            have hx' := Lib.hid hxp
            have hp' := Lib.hid hp
            clear hxp hc5 hfit hcond hM hbV hk hfl hple x0 x1 x2 hlen hp
            gi_wp2
            refine wpIn_region_grow (by kernel_rfl) (by kernel_rfl) (by kernel_rfl) ?_
            iterate 21 (gi_big_quiet_step (fail))
            refine wpQuietIn_nil ?_
            intro _ hw'
            obtain ⟨V', hw''⟩ := hw'
            subst hw''
            have y4 := q4 V'
            have y4f := q4f V'
            have y9 := q9 V'
            have y9f := q9f V'
            have y8 := q8 V'
            have y3 := q3 V'
            clear q9 q8 q5 q2 q3 q4 q4f q9f q5c hup
            gi_wp2
            refine ⟨((others_below V'.below).trans (KeepsOthers.setCell _ _ _)).from _, .inl ⟨rfl, fun hff => hx'.out ?_⟩⟩
            have := fitN_last hff
            rw [hple'.out, hp'.out] at this
            exact (Option.some.inj this).symm
        · have hli2 : (N : Int) ≤ (pl : Int) := by omega
          clear hfit hcond hM hbV hk hfl hple x0 x1 x2 hlen
          gi_wp2
          refine wpIn_region_grow (by kernel_rfl) (by kernel_rfl) (by kernel_rfl) ?_
          iterate 21 (gi_big_quiet_step (fail))
          refine wpQuietIn_nil ?_
          intro _ hw'
          obtain ⟨V', hw''⟩ := hw'
          subst hw''
          have y4 := q4 V'
          have y4f := q4f V'
          have y9 := q9 V'
          have y9f := q9f V'
          have y8 := q8 V'
          have y3 := q3 V'
          clear q9 q8 q5 q2 q3 q4 q4f q9f hup
          gi_wp2
          refine ⟨((others_below V'.below).trans (KeepsOthers.setCell _ _ _)).from _, .inl ⟨rfl, fun hff => ?_⟩⟩
          have := hff.2
          rw [hl1.out, hple'.out, hNe'.out] at this
          omega
      case rest0 =>
        rintro D W hD hM hDn
        have hM' := Lib.hid hM
        have hDn' := Lib.hid hDn
        have hDW := hDn.lt
        have hbW := hM.be
        have hbs5 := hbW.size
        have e8 := hM.bT.cell 0
        have e9 := hM.bk.cell 0
        have e5 := (d5.out.below hbW d5.out.lt).cell 0
        have e3 := (d3.out.below hbW d3.out.lt).cell 0
        rw [show feCount m N 0 = min (N : Int) (max 1 m) from rfl] at e9
        have hbW' := Lib.hid hbW
        clear hbW hM hDn
        gi_wp2
        rw [roundsIn_succ]
        have q4 := (Has.new W 3 #[.int .i64 1]).alloc (.cells #[.int .i64 0] 3)
        have q5 := Has.new (W.alloc (.cells #[.int .i64 1] 3)) 3 #[.int .i64 0]
        simp only [World.size_alloc] at q5
        have n2 : FeM w5 W.heap.size (W.heap.size + 1) 1 [D] 0 ((W.alloc (.cells #[.int .i64 1] 3)).alloc (.cells #[.int .i64 0] 3)) :=
          ⟨q4, q5, fun D' h => by rw [List.mem_singleton.1 h]; exact (hDn'.out.alloc _).alloc _, (hbW'.out.alloc hbW'.out.size _).alloc (by simp only [World.size_alloc]; omega) _⟩
        have n2' := Lib.hid n2
        clear q4 q5 n2 hM' e8 e9 e5 e3
        gi_wp2
        obtain ⟨w7, hw7⟩ : ∃ w7, (W.alloc (.cells #[.int .i64 1] 3)).alloc (.cells #[.int .i64 0] 3) = w7 := ⟨_, rfl⟩
        have z7 : w7.heap.size = W.heap.size + 1 + 1 := by rw [← hw7]; simp
        rw [hw7] at n2' ⊢
        clear hw7
        have hE7 := hE5'.out.below n2'.out.be
        refine wpIn_range_ownB 4 (gf := 64) (lb := #[.pointer (some ⟨bP, 0, none⟩)]) rfl (enters_of Tryd.func64 (by kernel_rfl) rfl)
          (eachF_stops ls bP g n c' A' cur (by omega) (fun j => j = W.heap.size + 1) ⟨by omega, by omega, by omega, by omega, by omega⟩ w7 (fun j hj => by omega) hE7)
          (fun h k => h.trans k) (fun W l o o' _ h1 h2 _ => KeepW.putObj W l o o' h1 h2) (Below.refl _ _) (fun _ => rfl)
          (FeI ls w5 m W.heap.size (W.heap.size + 1) 1 [D]) (FeX ls w5 m W.heap.size (W.heap.size + 1) 1 [D]) (FeM w5 W.heap.size (W.heap.size + 1) 1 [D] (feCount m N 1))
          (feI_from ls w5 m _ _ 1 [D] _ (fun D' h => by rw [List.mem_singleton.1 h]; omega) (by omega)) (feX_from ls w5 m _ _ 1 [D] _ (fun D' h => by rw [List.mem_singleton.1 h]; omega) (by omega))
          ⟨⟨⟨rfl, Nat.zero_le _⟩, fun h => by cases h⟩, n2'.out⟩ (fun _ _ h1 h2 => by have := fe_all (by rw [hn'.out] at h1; exact h1) h2; rwa [hNe'.out] at this) (fun _ _ _ h1 h2 => by have := fe_left (by rw [hn'.out] at h1; exact h1) h2; rwa [hNe'.out] at this)
          (AxB ?Fx1 37 (fun k => #[.int .i64 (tellS ls k).2.1, .string ⟨(tellS ls k).2.2.1.toArray⟩, .string ⟨(tellS ls k).2.2.2.toArray⟩])) axB_from ?assign1 ?body1 (fun _ _ h => h) ?rest1
        case assign1 =>
          intro l1 pre x V K hI hK
          have hK' := Lib.hid hK
          have hI' := Lib.hid hI
          clear hK hI
          dsimp only [encK, encFd]
          have hx : (tellS ls x).1 = x := rfl
          rw [hx]
          clear hx
          have hnew := Lib.hid (Has.new V 37 #[.int .i64 (tellS ls x).2.1, .string ⟨(tellS ls x).2.2.1.toArray⟩, .string ⟨(tellS ls x).2.2.2.toArray⟩])
          gi_wp2
          obtain ⟨k, hk⟩ : ∃ k, V.heap.size = k := ⟨_, rfl⟩
          have hn2 := hnew.out
          rw [hk] at hn2 ⊢
          refine hK'.out _ _ ((KeepsOthers.alloc _ _).from _) (KeepW.below ((Below.refl _ _).alloc (Nat.le_refl _) _)) ⟨hI'.out.1, hI'.out.2.below ((Below.refl _ _).alloc (Nat.le_refl _) _)⟩ ⟨k, ?_, hn2⟩
          rfl
        case body1 =>
          rintro l1 pre x a' V ⟨⟨hfit, hcond⟩, hM⟩ ⟨kb, rfl, hk⟩ hlen
          have hk : Has V kb 37 #[.int .i64 (tellS ls x).2.1, .string ⟨(tellS ls x).2.2.1.toArray⟩, .string ⟨(tellS ls x).2.2.2.toArray⟩] := hk
          have hM' := Lib.hid hM
          have hbV := hM.be
          have hup : ∀ {k t cs}, Has w5 k t cs → ∀ V' : Grown V, Has V'.v k t cs := fun h V' => (h.below hbV h.lt).below V'.below (by have := h.lt; have := hbV.size; omega)
          have q9 := fun (V' : Grown V) => (hM.bk.below V'.below hM.bk.lt).cell 0
          have q8 := fun (V' : Grown V) => (hM.bT.below V'.below hM.bT.lt).cell 0
          have q5 := fun (V' : Grown V) => (hup d5.out V').cell 0
          have q2 := fun (V' : Grown V) => (hup d2.out V').cell 0
          have q3 := fun (V' : Grown V) => (hup d3.out V').cell 0
          have q4 := fun (V' : Grown V) => (hup d4.out V').cell 0
          have q4f := fun (V' : Grown V) => (hup d4.out V').free 0
          have q9f := fun (V' : Grown V) => (hM.bk.below V'.below hM.bk.lt).free 0
          have x0 := fun (V' : Grown V) => (hk.below V'.below hk.lt).cell 0
          have x1 := fun (V' : Grown V) => (hk.below V'.below hk.lt).cell 1
          have x2 := fun (V' : Grown V) => (hk.below V'.below hk.lt).cell 2
          have hfit' := Lib.hid hfit
          have hcond' := Lib.hid hcond
          have hl1 : Hid ((pre ++ [x]).length = pre.length + 1) := Lib.hid (by simp)
          obtain ⟨pl, hple⟩ : ∃ pl, pre.length = pl := ⟨_, rfl⟩
          have hple' := Lib.hid hple
          have e1 : Hid (((pre ++ [x]).length : Int) = (pl : Int) + 1) := Lib.hid (by rw [hl1.out, hple]; rfl)
          have hz3 : w.heap.size + 1 < w5.heap.size := d3.out.lt
          rw [hple] at q9
          have hfl := hfit.2
          rw [hNe'.out, hple] at hfl
          by_cases hlt : pl < N
          · obtain ⟨g5, cur5, rfl, hg5, hc5⟩ := hcur5.out (by omega)
            obtain ⟨p, hp⟩ : ∃ p, (cls ls)[pl]? = some p := ⟨(cls ls)[pl]'(by rw [hNe'.out]; exact hlt), List.getElem?_eq_getElem _⟩
            have q5c := fun (V' : Grown V) => ((hup hg5 V').cell pl).trans (hc5 pl p hp)
            have hli2 : (pl : Int) < (N : Int) := by omega
            have hli3 : decide (N ≤ pl) = false := decide_eq_false (by omega)
            have hpn := cls_lt hp
            by_cases hxp : x = p
            · subst hxp
              have hxn : x < n := by have := hn'.out; omega
              have hxnI : (x : Int) < (n : Int) := by omega
              obtain ⟨y, hy⟩ : ∃ y, ls[x]? = some y := ⟨ls[x]'hpn, List.getElem?_eq_getElem _⟩
              obtain ⟨ab, ao, rfl, hab, hac⟩ := hA'.out (by omega)
              have hac5 := fun (V' : Grown V) => ((((hb05'.out.trans (hbV.mono hb05'.out.size)).trans (V'.below.mono (by have := hb05'.out.size; have := hbV.size; omega))).cell (p := ⟨ab, ao + x, none⟩) hab).trans (hac x y hy))
              have hyl := hls'.out y (List.mem_of_getElem? hy)
              have hro := fun (V' : Grown V) => (CallsIn.inRound l1 (callsIn_wide (n := 3 - 1 - 1 - 1).2 ((refOfF_any y V'.v (by omega)).mono (R' := fun e w'' => e = .returned (.agg #[.int .i64 (fieldF y).1, .string ⟨(fieldF y).2.1.toArray⟩, .string ⟨(fieldF y).2.2.toArray⟩]) ∧ ∃ V'' : Grown V, w'' = V''.v) (fun e w'' h => ⟨h.1, ⟨w'', V'.below.trans (h.2.mono V'.below.size)⟩, rfl⟩))))
              have hfl2 := fieldF_len y
              have heq := fun W => field_equal (fieldF y) (fieldF y) (fieldF_wf y) (fieldF_wf y) (by omega) (by omega) (by omega) (by omega) W
              have htl : tellS ls x = (x, fieldF y) := by unfold tellS; rw [List.getD_eq_getElem?_getD, hy]; rfl
              rw [htl] at x0 x1 x2
              have hp' := Lib.hid hp
              have hro' := Lib.hid hro
              clear hro hfl2 htl hy hac hp hc5 hfit hcond hk hfl hple hlen hyl
              generalize fieldF y = f at heq hro' x0 x1 x2
              obtain ⟨ki, nm, vl⟩ := f
              simp only [fieldV, decide_true] at heq hro' x0 x1 x2
              have hnx := Lib.hid (fitN_next hfit'.out (by rw [hple'.out, hp'.out]))
              have hM9 := Lib.hid (fun (V' : Grown V) => (hM'.out.below V'.below).count (by omega) (by omega) ((pl : Int) + 1))
              clear hM hbV
              gi_wp2
              refine wpIn_region_grow (by kernel_rfl) (by kernel_rfl) (by kernel_rfl) ?_
              iterate 21 (gi_big_quiet_step ((gi_at_call 25; exact hro'.out _)))
              refine wpQuietIn_nil ?_
              intro _ hw'
              obtain ⟨V', hw''⟩ := hw'
              subst hw''
              have y4 := q4 V'
              have y4f := q4f V'
              have y9 := q9 V'
              have y9f := q9f V'
              have y8 := q8 V'
              have y3 := q3 V'
              clear q9 q8 q5 q2 q3 q4 q4f q9f q5c hup hac5 x0 x1 x2
              gi_wp2
              refine ⟨((others_below V'.below).trans (KeepsOthers.setCell _ _ _)).from _, KeepW.setCell (Wr := fun j => j = W.heap.size + 1) (KeepW.below V'.below) (p := ⟨W.heap.size + 1, 0, none⟩) rfl _, ⟨hnx.out, fun h => by cases h⟩, by rw [e1.out]; exact hM9.out V'⟩
            · have hxI : ((x : Int) != (p : Int)) = true := by rw [bne_iff_ne]; omega
              have hx' := Lib.hid hxp
              have hp' := Lib.hid hp
              clear hxp hc5 hfit hcond hM hbV hk hfl hple x0 x1 x2 hlen hp
              gi_wp2
              refine wpIn_region_grow (by kernel_rfl) (by kernel_rfl) (by kernel_rfl) ?_
              iterate 21 (gi_big_quiet_step (fail))
              refine wpQuietIn_nil ?_
              intro _ hw'
              obtain ⟨V', hw''⟩ := hw'
              subst hw''
              have y4 := q4 V'
              have y4f := q4f V'
              have y9 := q9 V'
              have y9f := q9f V'
              have y8 := q8 V'
              have y3 := q3 V'
              clear q9 q8 q5 q2 q3 q4 q4f q9f q5c hup
              gi_wp2
              refine ⟨((others_below V'.below).trans (KeepsOthers.setCell _ _ _)).from _, .inl ⟨rfl, fun hff => hx'.out ?_⟩⟩
              have := fitN_last hff
              rw [hple'.out, hp'.out] at this
              exact (Option.some.inj this).symm
          · have hli2 : (N : Int) ≤ (pl : Int) := by omega
            clear hfit hcond hM hbV hk hfl hple x0 x1 x2 hlen
            gi_wp2
            refine wpIn_region_grow (by kernel_rfl) (by kernel_rfl) (by kernel_rfl) ?_
            iterate 21 (gi_big_quiet_step (fail))
            refine wpQuietIn_nil ?_
            intro _ hw'
            obtain ⟨V', hw''⟩ := hw'
            subst hw''
            have y4 := q4 V'
            have y4f := q4f V'
            have y9 := q9 V'
            have y9f := q9f V'
            have y8 := q8 V'
            have y3 := q3 V'
            clear q9 q8 q5 q2 q3 q4 q4f q9f hup
            gi_wp2
            refine ⟨((others_below V'.below).trans (KeepsOthers.setCell _ _ _)).from _, .inl ⟨rfl, fun hff => ?_⟩⟩
            have := hff.2
            rw [hl1.out, hple'.out, hNe'.out] at this
            omega
        case rest1 =>
          rintro D2 W2 hD2 hM2 hDn2
          have hDn2' := Lib.hid hDn2
          have hDW2 := hDn2.lt
          have hne : D < D2 := by omega
          have hds := Lib.hid (hM2.ds D List.mem_cons_self)
          have hbW2 := hM2.be
          have hbs2 := hbW2.size
          have e8 := hM2.bT.cell 0
          have e9 := hM2.bk.cell 0
          have e5 := (d5.out.below hbW2 d5.out.lt).cell 0
          have e3 := (d3.out.below hbW2 d3.out.lt).cell 0
          have hd4 := Lib.hid (d4.out.below hbW2 d4.out.lt)
          have hb2w := Lib.hid (hb05'.out.trans (hbW2.mono hb05'.out.size))
          rw [show feCount m N 1 = (N : Int) from rfl] at e9
          have hgl1 := hd4.out.lt
          have hz4 := d4.out.lt
          have hz05 := hb05'.out.size
          clear hbW2 hM2 hDn2
          gi_wp2
          rw [roundsIn_succ]
          have e7 := (Has.new W2 3 #[.int .i64 2]).cell 0
          have g1x := hd4.out.alloc (.cells #[.int .i64 2] 3)
          have e8 := g1x.cell 0
          have f8 := g1x.free 0
          have hb2x := Lib.hid (hb2w.out.alloc (by omega) (.cells #[.int .i64 2] 3))
          gi_wp2_with fail
          go_wp2_with fail
          with_reducible refine Calls.mono (hwk.out _ hb2x.out) ?_
          rintro e w19 ⟨rfl, hb19, hb19w⟩
          have g9 := g1x.below hb19 g1x.lt
          have e9 := g9.cell 0
          have f9 := g9.free 0
          have k2 := Lib.hid (((hDn2'.out.alloc (.cells #[.int .i64 2] 3)).below hb19 (by simp; omega)).set (i := 0) g9 (.bool true))
          have k1 := Lib.hid (((hds.out.alloc (.cells #[.int .i64 2] 3)).below hb19 (by simp; omega)).set (i := 0) g9 (.bool true))
          have g10 := g9.put 0 (.bool true)
          have hb10 := Lib.hid (hb19w.setCell (p := ⟨w.heap.size + 1 + 1, 0, none⟩) (by simp; omega) (.bool true))
          go_wp2
          have hne2 : D ≠ D2 := by omega
          have k1' := (k1.out.put (.deferred none) hne2)
          refine ⟨by simp, .inl ⟨_, _, rfl, run_takeDeferred k2.out, ⟨by simp, .inl ⟨_, _, rfl, run_takeDeferred k1', ?_⟩⟩⟩⟩
          have g11 := ((g10.put_obj (.deferred none) (l := D2) (by omega)).put_obj (.deferred none) (l := D) (by omega)).cell 0
          refine ⟨.bool true, ?_, rfl, ?_⟩
          · simp [results, Tryd.results7, go_sem, g11]
          · exact (hb10.out.trans (belowK_b (w := w) (Nat.le_refl _) _ D2 _ _ (by omega) k2.out rfl rfl)).trans (belowK_b (w := w) (Nat.le_refl _) _ D _ _ (by omega) k1' rfl rfl)
end Go.Proofs.YtdkmajmmhngdpaaDoor
