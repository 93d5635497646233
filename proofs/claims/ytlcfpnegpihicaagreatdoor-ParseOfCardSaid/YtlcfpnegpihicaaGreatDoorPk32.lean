import Derived.Test.YtlcfpnegpihicaaGreatDoorPk30
import Derived.Test.YtlcfpnegpihicaaGreatDoorPk31
import Derived.Lib.MinMax
import Derived.Deep.Cut
import Derived.Deep.RegionHeld3
import Derived.BigRegionIn
namespace Go.Proofs.YtlcfpnegpihicaaGreatDoor
open Go.RowKit Go.Shelf
attribute [local go_sem] Oper.semAt_some
attribute [local go_sem] wide_fn wide_depth wide_round

/-! ## The law of what bytes say, one by one -/
set_option maxRecDepth 100000 in
theorem ofP_works (z y m : Int) (A : Option Addr) (n cap : Nat) (w : World) (hT : PsT0 w) (hl : 400 < n) (hm : n ≤ maxLen) :
    Calls Tryz.prog 3 #[.int .i64 z, .int .i64 y, .slice A n cap, .int .i64 m] w fun e w' => e = .returned (.bool true) ∧ Below w.heap.size w w' := by
  unfold maxLen at hm
  have hli : (400 : Int) < (n : Int) := by omega
  have hB1 : Below w.heap.size w ((w.alloc (.cells #[.int .i64 m] 3)).alloc (.cells #[.bool false] 4)) := ((Below.refl _ _).alloc (Nat.le_refl _) _).alloc (by simp) _
  have k1 := Has.new (w.alloc (.cells #[.int .i64 m] 3)) 4 #[.bool false]
  simp only [World.size_alloc] at k1
  have hw := Lib.hid (worksPs_any _ (hT.below hB1))
  have hB1' := Lib.hid hB1
  have k1' := Lib.hid k1
  clear hT hB1 k1
  refine (callsIn_wide (n := 6)).1 ?_
  refine callsIn_of_wp_marks Tryz.func3 rfl trivial ?_ rfl
  refine wpIn_wide.2 ?_
  simp only [Tryz.ntmps3, List.size_toArray, List.length_cons, List.length_nil, Nat.reduceAdd, Nat.reduceSub, Array.replicate_succ, Array.replicate_zero, List.push_toArray, List.append_toArray, List.nil_append, List.cons_append]
  go_wp2_with fail
  with_reducible refine Calls.mono hw.out ?_
  rintro e w9 ⟨rfl, hb9⟩
  have k9 := k1'.out.below hb9 k1'.out.lt
  have e9 := k9.cell 0
  have f9 := k9.free 0
  have g10 := (k9.put 0 (.bool true)).cell 0
  have hb10 := Lib.hid ((hB1'.out.trans (hb9.mono hB1'.out.size)).setCell (p := ⟨w.heap.size + 1, 0, none⟩) (by simp) (.bool true))
  clear hb9
  go_wp2
  refine ⟨.bool true, ?_, rfl, hb10.out⟩
  simp [results, Tryz.results3, go_sem, g10]
set_option maxRecDepth 100000 in
set_option maxHeartbeats 4000000 in
theorem lawOfPs (z y m : Int) (A : Option Addr) (n cap : Nat) (bs : List UInt8) (w : World) (hT : PsT0 w) (hm : n = bs.length) (hA : Rd w (· < w.heap.size) A bs) (hl : n ≤ 400) :
    Calls Tryz.prog 3 #[.int .i64 z, .int .i64 y, .slice A n cap, .int .i64 m] w fun e w' => e = .returned (.bool true) ∧ Below w.heap.size w w' := by
  have hT' := Lib.hid hT
  have hm' := Lib.hid hm
  have hA' := Lib.hid hA
  have hB1 : Below w.heap.size w ((w.alloc (.cells #[.int .i64 m] 3)).alloc (.cells #[.bool false] 4)) := ((Below.refl _ _).alloc (Nat.le_refl _) _).alloc (by simp) _
  have k0 := (Has.new w 3 #[.int .i64 m]).alloc (.cells #[.bool false] 4)
  have k1 := Has.new (w.alloc (.cells #[.int .i64 m] 3)) 4 #[.bool false]
  simp only [World.size_alloc] at k1
  obtain ⟨w1, hw1⟩ : ∃ w1, (w.alloc (.cells #[.int .i64 m] 3)).alloc (.cells #[.bool false] 4) = w1 := ⟨_, rfl⟩
  have z1 : w1.heap.size = w.heap.size + 1 + 1 := by rw [← hw1]; simp
  rw [hw1] at hB1 k0 k1
  have hw1' := Lib.hid hw1
  have hB1' := Lib.hid hB1
  have k0' := Lib.hid k0
  have k1' := Lib.hid k1
  have z1' := Lib.hid z1
  have hwz : w.heap.size < w1.heap.size := by omega
  have hq := Lib.hid (empty_own w1)
  have hq1 := Lib.hid ((Below.refl w1.heap.size w1).alloc (Nat.le_refl _) (.cells #[] 5))
  have hAE := Lib.hid ((hA.kept (Kept.below hB1 (fun _ h => h))).kept (Kept.below hq1.out (fun b (h : b < w.heap.size) => by omega)))
  have hl3 : Hid (([] ++ bs ++ [77] : List UInt8).length = n + 1) := Lib.hid (by simp [hm])
  clear hT hm hA hB1 k0 k1 hw1 z1
  refine (callsIn_wide (n := 6)).1 ?_
  refine callsIn_of_wp_marks Tryz.func3 rfl trivial ?_ rfl
  refine wpIn_wide.2 ?_
  simp only [Tryz.ntmps3, List.size_toArray, List.length_cons, List.length_nil, Nat.reduceAdd, Nat.reduceSub, Array.replicate_succ, Array.replicate_zero, List.push_toArray, List.append_toArray, List.nil_append, List.cons_append]
  go_upto_region 3 with (fail)
  rw [hw1'.out]
  go_upto_region 6 with (first
    | (at_builtin; refine wpList_append_rd rfl _ _ rfl rfl hq.out _ A bs n cap hm'.out rfl hAE.out (by have := hm'.out; simp; omega) (by simp) ?_; intro v2 w2 hv2 hg2; have hv2' := Lib.hid hv2; have hg2' := Lib.hid hg2; have hB2 := Lib.hid (hq1.out.grown hg2 (by simp) (fun g e => ((empty_own w1).own g e).1)); clear hv2 hg2)
    | (at_builtin; refine wpList_append_rd rfl _ _ rfl rfl (hv2'.out.below ((Below.refl _ _).alloc (Nat.le_refl _) _)) _ _ [77] 1 1 rfl rfl (rd_oneP w2 77) (by have := hm'.out; simp; omega) (by have := hB2.out.size; simp; omega) ?_; intro v3 w3 hv3 hg3; have hB3 := Lib.hid ((hB2.out.alloc hB2.out.size _).grown hg3 (by have := hB2.out.size; simp; omega) (fun g e => (hv2'.out.own g e).1)); obtain ⟨g3, c3, rfl, hg31, hg32, hc3, hc3m, hr3⟩ := hv3.wholeP (by simp); rw [hl3.out] at hc3 ⊢; have hr3' := Lib.hid hr3; unfold maxLen at hc3m; clear hv3 hg3 hr3; have hW3 := Lib.hid (hB1'.out.trans (hB3.out.mono (by omega))); have hR3 := Lib.hid (show Rd w3 (· < w3.heap.size) (some ⟨g3, 0, none⟩) bs by have := (hr3'.out.mono (S' := (· < w3.heap.size)) (fun b (hb : b = g3) => by subst hb; exact hg32)).take n; rwa [List.nil_append, List.take_left' hm'.out.symm] at this); have hof := Lib.hid (ofP_all z y bs (some ⟨g3, 0, none⟩) n c3 w3 hm'.out (by omega) (by omega) (by omega) hR3.out (hT'.out.below hW3.out)))
    | (go_at_call 7; (with_reducible refine Calls.mono hof.out ?_); rintro e w4 ⟨v4, rfl, hv4, hb4⟩; have hW4 := Lib.hid (hW3.out.trans (hb4.mono hW3.out.size)); obtain ⟨A4, c4, rfl, hat4⟩ := hv4.shape; have hat4' := Lib.hid hat4; have hb4' := Lib.hid hb4; clear hv4 hat4 hb4; have hrf := Lib.hid (refOfP_all z y bs A n cap w4 ((hA'.out.kept (Kept.below hW4.out (fun _ h => h))).mono (fun b (h : b < w.heap.size) => Nat.lt_of_lt_of_le h hW4.out.size)) hm'.out (by omega)))
    | (go_at_call 8; (with_reducible refine Calls.mono hrf.out ?_); rintro e w5 ⟨v5, rfl, hv5, hb5⟩; obtain ⟨A5, c5, rfl, hat5⟩ := hv5.shape; have hat5' := Lib.hid hat5; have hb5' := Lib.hid hb5; clear hv5 hat5 hb5))
  obtain ⟨ls, hls⟩ : ∃ ls, saysE z y bs = ls := ⟨_, rfl⟩
  obtain ⟨hlN, hlg⟩ := saysE_len z y bs
  rw [hls] at hlN hlg hat4' hat5' ⊢
  obtain ⟨N, hN⟩ : ∃ N, ls.length = N := ⟨_, rfl⟩
  rw [hN] at hlN ⊢
  obtain ⟨bd, hbd⟩ : ∃ bd, badP z y = bd := ⟨_, rfl⟩
  rw [hbd]
  have hN9 : N ≤ 1200 := by have := hm'.out; omega
  have hal : Below w5.heap.size w5 (w5.alloc (.cells #[.slice A5 N c5] 24)) := (Below.refl _ _).alloc (Nat.le_refl _) _
  have kK := Has.new w5 24 #[.slice A5 N c5]
  obtain ⟨w6, hw6⟩ : ∃ w6, w5.alloc (.cells #[.slice A5 N c5] 24) = w6 := ⟨_, rfl⟩
  have z6 : w6.heap.size = w5.heap.size + 1 := by rw [← hw6]; simp
  rw [hw6] at hal kK ⊢
  have h36 : Below w3.heap.size w3 w6 := hb4'.out.trans ((hb5'.out.trans (hal.mono hb5'.out.size)).mono hb4'.out.size)
  have z36 := h36.size
  have z13 := hB3.out.size
  have hB6 : Below w.heap.size w w6 := hW3.out.trans (h36.mono (by omega))
  have h16 : Below w1.heap.size w1 w6 := hB3.out.trans (h36.mono z13)
  have g0 := k0'.out.below h16 (by omega)
  have g1 := k1'.out.below h16 k1'.out.lt
  have la4 : SdAt w6 A4 ls := (hat4'.out.below hb5'.out).below hal
  have la5 : SdAt w6 A5 ls := hat5'.out.below hal
  have r6 : Rd w6 (· = g3) (some ⟨g3, 0, none⟩) ([] ++ bs ++ [77]) := hr3'.out.kept (Kept.below h36 (fun b (h : b = g3) => by subst h; exact hg32))
  have hea := Lib.hid (eachPs_any z y bs (some ⟨g3, 0, none⟩) n c3 w6 ((hR3.out.kept (Kept.below h36 (fun b h => h))).mono (fun b (h : b < w3.heap.size) => by show b < w6.heap.size; omega)) hm'.out (by omega))
  have hTT := Lib.hid (hT'.out.below hB6)
  have hAA := Lib.hid ((hA'.out.kept (Kept.below hB6 (fun _ h => h))).mono (fun b (h : b < w.heap.size) => Nat.lt_of_lt_of_le h hB6.size))
  obtain ⟨K, hK⟩ : ∃ K, w5.heap.size = K := ⟨_, rfl⟩
  rw [hK] at kK ⊢
  have hKw : w.heap.size + 1 < K := by have := hb4'.out.size; have := hb5'.out.size; have := z1'.out; omega
  have kK' := Lib.hid kK
  have g0' := Lib.hid g0
  have g1' := Lib.hid g1
  have la4' := Lib.hid la4
  have la5' := Lib.hid la5
  have r6' := Lib.hid r6
  have hB6' := Lib.hid hB6
  have hls' := Lib.hid hls
  have hN' := Lib.hid hN
  have hlg' := Lib.hid hlg
  have hg36 : Hid (g3 < w6.heap.size) := Lib.hid (by omega)
  clear hls hN hbd hlg hal kK hw6 z6 hK h36 z36 z13 hB6 h16 g0 g1 la4 la5 r6 hT' hA' hr3' hR3 hB3 hW3 hW4 hat4' hat5' hb4' hb5' hB2 hg2' hv2' hg31 hg32 hw1' hB1' k0' k1' z1' hwz hq hq1 hAE hl3 hof hrf
  go_upto_region 7 with (go_at_call 9; (with_reducible refine Calls.mono hea.out ?_); rintro e w8 ⟨p, PA, AA, pc, rfl, hb8, hM8, hM9, hp8, hP8, hR8, hPc8⟩; have hEa := Lib.hid (show EaP z y bs w6.heap.size p AA PA pc w8 from ⟨hM8, hM9, hP8, hR8.mono (fun q hq => hq.2), fun k u hu => by obtain ⟨a1, g, cs, a2, a3, a4, a5, a6⟩ := hPc8 k u hu; exact ⟨a1, g, cs, a2, a4, a5, a6⟩⟩); have hb8' := Lib.hid hb8; clear hb8 hM8 hM9 hP8 hR8 hPc8)
  have kK8 := kK'.out.below hb8'.out kK'.out.lt
  have e10 := kK8.cell 0
  have kK8' := Lib.hid kK8
  have hsm := Lib.hid (sameSd_yes A4 A5 ls N c4 c5 w8 hN'.out.symm (la4'.out.below hb8'.out) (la5'.out.below hb8'.out) hlg'.out (by omega))
  have hnil : ∀ (fn : Fn) (f c : Array Value) (w : World), Sem.run Tryz.prog (binOp BinOp.eql 31 (Value.func fn f c) Value.nilFunc) w = .ok (.bool false) w := fun _ _ _ _ => by kernel_rfl
  have hB8 := Lib.hid (hB6'.out.trans (hb8'.out.mono hB6'.out.size))
  have z8 := hb8'.out.size
  have hall := Lib.hid (fun W (hb : Below w8.heap.size w8 W) => show (convert 22 9 (.slice A n cap)).run Tryz.prog W = .ok (.string ⟨bs.toArray⟩) W ∧ (convert 22 9 (.slice (some ⟨g3, 0, none⟩) n c3)).run Tryz.prog W = .ok (.string ⟨bs.toArray⟩) W ∧ W.cell? ⟨g3, n, none⟩ = some (.int .u8 77) by
    have hb6 : Below w6.heap.size w6 W := hb8'.out.trans (hb.mono z8)
    have hr := r6'.out.kept (Kept.below hb6 (fun b (h : b = g3) => by subst h; exact hg36.out))
    refine ⟨?_, ?_, ?_⟩
    · have := (hAA.out.kept (Kept.below hb6 (fun _ h => h))).text (P := Tryz.prog) 22 9 5 cap Tryz.underlying22 Tryz.underlying5 Tryz.underlying9
      rwa [← hm'.out] at this
    · have := (hr.take n).text (P := Tryz.prog) 22 9 5 c3 Tryz.underlying22 Tryz.underlying5 Tryz.underlying9
      rwa [List.nil_append, List.take_left' hm'.out.symm, ← hm'.out] at this
    · obtain ⟨ad, had, _, hcell⟩ := hr (by simp)
      cases had
      have := hcell n (byt 77) (by rw [byts_append, List.nil_append, List.getElem?_append_right (by rw [byts_length]; have := hm'.out; omega), byts_length, ← hm'.out, Nat.sub_self]; rfl)
      rwa [add_zero_, Nat.zero_add] at this)
  have hci : (n : Int) + 1 ≤ (c3 : Int) := by omega
  have hci0 : (0 : Int) ≤ (n : Int) + 1 := by omega
  have hci1 : (n : Int) < (n : Int) + 1 := by omega
  have hwr : IntKind.i64.wrap ((n : Int) + 1) = (n : Int) + 1 := wraps_i64 _ (by omega) (by omega)
  clear z8 kK8
  go_upto_region 9 with (first
    | (go_at_call 10; (with_reducible refine Calls.mono hsm.out ?_); rintro e w9 ⟨rfl, hb9⟩; have hb9' := Lib.hid hb9; obtain ⟨t1, t2, t3⟩ := hall.out w9 hb9; clear hb9)
    | (go_at_call 11; (with_reducible refine Calls.mono (numPs_any _ _) ?_); rintro e w10 ⟨rfl, rfl⟩))
  have hb9 := hb9'.out
  have h69 : Below w6.heap.size w6 w9 := hb8'.out.trans (hb9.mono hb8'.out.size)
  have hK9 := kK8'.out.below hb9 kK8'.out.lt
  have hEa9 := Lib.hid (hEa.out.below hb9)
  have hT9 := Lib.hid (hTT.out.below h69)
  have hB9 : Below w.heap.size w w9 := hB8.out.trans (hb9.mono hB8.out.size)
  have g09 := g0'.out.below h69 g0'.out.lt
  have g19 := g1'.out.below h69 g1'.out.lt
  have la9 : SdAt w9 A5 ls := la5'.out.below h69
  have hF := Lib.hid (fun W (hb : Below w9.heap.size w9 W) => show Has W w.heap.size 3 #[.int .i64 m] ∧ Has W (w.heap.size + 1) 4 #[.bool false] ∧ Has W K 24 #[.slice A5 N c5] ∧ SdAt W A5 ls ∧ PsT0 W ∧ Below w.heap.size w W from
    ⟨g09.below hb g09.lt, g19.below hb g19.lt, hK9.below hb hK9.lt, la9.below hb, hT9.out.below hb, hB9.trans (hb.mono hB9.size)⟩)
  obtain ⟨bM, hbM⟩ : ∃ bM, w6.heap.size = bM := ⟨_, rfl⟩
  rw [hbM] at hEa9 ⊢
  have hCw : w.heap.size + 1 < w9.heap.size := g19.lt
  have hKC : K < w9.heap.size := hK9.lt
  obtain ⟨C, hC⟩ : ∃ C, w9.heap.size = C := ⟨_, rfl⟩
  have hC' := Lib.hid hC
  rw [hC] at hCw hKC
  clear t1 t2 t3 hb9 h69 hK9 hEa hTT hB9 g09 g19 la9 hbM hb9' hall hsm e10 kK8' hB8 hb8' hea hAA kK' g0' g1' la4' la5' r6' hB6' hg36 hci hci0 hci1 hwr
  go_wp2
  clear hnil
  refine (wpIn_wide (n := 6)).1 ?_
  refine wpIn_loop_rounds 3 ?_
  rw [roundsIn_succ]
  have q4 := (Has.new w9 3 #[.int .i64 0]).alloc (.cells #[.int .i64 0] 3)
  have q5 := Has.new (w9.alloc (.cells #[.int .i64 0] 3)) 3 #[.int .i64 0]
  have hb96 : Below w9.heap.size w9 ((w9.alloc (.cells #[.int .i64 0] 3)).alloc (.cells #[.int .i64 0] 3)) := ((Below.refl _ _).alloc (Nat.le_refl _) _).alloc (by simp) _
  simp only [World.size_alloc, hC'.out] at q4 q5
  have hM : OMp w9 C (C + 1) 0 [] 0 ((w9.alloc (.cells #[.int .i64 0] 3)).alloc (.cells #[.int .i64 0] 3)) := ⟨hb96, q4, q5, fun _ h => (List.not_mem_nil h).elim⟩
  have hM := Lib.hid hM
  clear q4 q5 hb96
  gi_wp2
  clear hC
  obtain ⟨w16, hw16⟩ : ∃ w16, (w9.alloc (.cells #[.int .i64 0] 3)).alloc (.cells #[.int .i64 0] 3) = w16 := ⟨_, rfl⟩
  have z16 : w16.heap.size = C + 1 + 1 := by rw [← hw16]; simp [hC'.out]
  rw [hw16] at hM ⊢
  clear hw16
  have hseq := eachP1_at z y bs w9 w16 bM p (C + 1) AA PA pc hM.out.1 (by rw [hC'.out]; omega) (by omega) (by have := hm'.out; omega) hT9.out hEa9.out
  rw [hls'.out] at hseq
  have hseq' := Lib.hid hseq
  clear hseq
  refine wpIn_range_lowM 2 (gf := 25) (lb := #[.pointer (some ⟨bM, 0, none⟩), .pointer (some ⟨bM + 1, 0, none⟩), .pointer (some ⟨p, 0, none⟩)]) rfl (enters_of Tryz.func25 (by kernel_rfl) rfl)
    hseq'.out (Below.refl _ _) (fun _ => rfl)
    (OIp w9 ls m C (C + 1) 0 []) (OXp w9 ls m C (C + 1) 0 []) (OMp w9 C (C + 1) 0 [] (opCount m ls.length 0))
    (fun pre X Y hs hb => hs.low hb (by have := hC'.out; omega) (by have := hC'.out; omega) (by have := hC'.out; omega) (fun _ h => (List.not_mem_nil h).elim)) (fun c pre X Y hs hb => hs.low hb (by have := hC'.out; omega) (by have := hC'.out; omega) (by have := hC'.out; omega) (fun _ h => (List.not_mem_nil h).elim))
    ⟨fun _ => .inl rfl, hM.out⟩
    (fun xs V h1 h2 => op_all h1 h2) (fun c pre V h1 h2 => op_left h2)
    (AxB ?Fx 40 (fun y : Nat × Sd => sdC y.2)) (fun y a' V l o o' h h1 h2 => by
      obtain ⟨k, h3, h4⟩ := h
      exact ⟨k, h3, h4.putNon o' h1 h2⟩) ?assign ?body (fun _ _ h => h) ?rest
  case assign =>
    intro l1 y V K hK
    have hK' := Lib.hid hK
    clear hK
    dsimp only [encS]
    unfold sdC
    gi_wp2
    obtain ⟨k, hk⟩ : ∃ k, V.heap.size = k := ⟨_, rfl⟩
    have hnew := Has.new V 40 (sdC y.2)
    unfold sdC at hnew
    rw [hk] at hnew ⊢
    refine hK'.out _ _ ((Below.refl _ _).alloc (Nat.le_refl _) _) ⟨k, ?_, hnew⟩
    rfl
  case body =>
    rintro l1 pre ⟨yn, yd⟩ a' V hlV ⟨r, hr⟩ hVz ⟨hcond, hM⟩ ⟨kx, rfl, hk⟩ hlen hsp
    obtain ⟨rfl, hx⟩ := said_last hsp
    simp only at hx
    obtain ⟨g0, g1, gK, la, _, _⟩ := hF.out V hM.1
    have e0 := g0.cell 0
    have e1c := g1.cell 0
    have f1 := g1.free 0
    have eK := gK.cell 0
    have e4 := hM.2.1.cell 0
    have e5 := hM.2.2.1.cell 0
    have f5 := hM.2.2.1.free 0
    have hk : Has V kx 40 (sdC yd) := hk
    unfold sdC at hk
    have d0 := hk.cell 0
    have d1 := hk.cell 1
    have d2 := hk.cell 2
    have d3 := hk.cell 3
    have d4 := hk.cell 4
    have hM' := Lib.hid hM
    have hcond' := Lib.hid hcond
    have hl1 : Hid ((pre ++ [(pre.length, yd)]).length = pre.length + 1) := Lib.hid (by simp)
    obtain ⟨g, rfl, _, u0, u1, u2, u3, u4⟩ := la _ _ hx
    have hx' := Lib.hid hx
    have hlN2 : pre.length < N := by rw [← hN'.out]; exact hlen
    obtain ⟨pl, hple⟩ : ∃ pl, pre.length = pl := ⟨_, rfl⟩
    have hple' := Lib.hid hple
    rw [hple] at e5 hlN2 u0 u1 u2 u3 u4 ⊢
    have hli : (pl : Int) < (N : Int) := by omega
    have e1 : Hid (((pre ++ [(pl, yd)]).length : Int) = (pl : Int) + 1) := Lib.hid (by simp [hple'.out])
    have hcnt := Lib.hid (fun q => (hM'.out.drewN q).count (by have := hC'.out; omega) (by omega) ((pl : Int) + 1))
    have hso := hlg'.out yd (List.mem_of_getElem? hx)
    have heq := fun w => said_equal yd yd hso hso w
    rw [decide_eq_true rfl] at heq
    unfold sdC at heq
    have hlf : decide (N ≤ pl) = false := decide_eq_false (by omega)
    have hk5 := hM'.out.2.2.1.lt
    clear hcond hM hx hple hlen la g0 g1 gK hk hr hsp hso
    by_cases hm : m ≤ (pl : Int) + 1
    · gi_wp2
      refine wpIn_region_calm (by kernel_rfl) (by kernel_rfl) (by kernel_rfl) ?_
      iterate 17 (gi_big_quiet_step (fail))
      refine wpQuietIn_nil ?_
      intro _ hw'
      obtain ⟨nq, hw''⟩ := hw'
      subst hw''
      gi_wp2
      refine ⟨((others_drewN _ _).trans (KeepsOthers.setCell _ _ _)).from _, rfl, rfl, ?_, by rw [e1.out]; exact hm, ?_, by rw [← hple'.out, hl1.out]; omega, by rw [e1.out]; exact hcnt.out _⟩
      · rw [← hple'.out, hl1.out]; have := hN'.out; have := hple'.out; omega
      · rw [e1.out]
        have := hcond'.out trivial
        have h9 := hple'.out
        have h8 := hl1.out
        rw [h9] at h8 this
        rw [h8]
        omega
    · gi_wp2
      refine wpIn_region_calm (by kernel_rfl) (by kernel_rfl) (by kernel_rfl) ?_
      iterate 17 (gi_big_quiet_step (fail))
      refine wpQuietIn_nil ?_
      intro _ hw'
      obtain ⟨nq, hw''⟩ := hw'
      subst hw''
      gi_wp2
      exact ⟨((others_drewN _ _).trans (KeepsOthers.setCell _ _ _)).from _, ⟨by simp, fun j hj hn => (Below.heap_setCell _ ⟨(C + 1), 0, none⟩ _ j (fun e => hn (.inl e)))⟩, ⟨fun _ => .inr (by rw [e1.out]; omega), by rw [e1.out]; exact hcnt.out _⟩⟩
  case rest =>
    rintro D W hD hM hDn
    rw [hN'.out] at hM
    obtain ⟨g0, g1, gK, _, _, _⟩ := hF.out W hM.1
    have e0 := g0.cell 0
    have eK := gK.cell 0
    have e4 := hM.2.1.cell 0
    have e5 := hM.2.2.1.cell 0
    have hcn : opCount m N 0 = min (N : Int) (max 1 m) := rfl
    rw [hcn] at e5
    have hDW := Lib.hid (show w9.heap.size ≤ W.heap.size ∧ D < W.heap.size ∧ w16.heap.size ≤ W.heap.size ∧ C + 1 < W.heap.size from ⟨hM.1.size, hDn.lt, by have := hDn.lt; omega, hM.2.2.1.lt⟩)
    have hDn' := Lib.hid hDn
    have hM1 := Lib.hid hM
    clear hM hDn g0 g1 gK hcn
    gi_wp2
    rw [roundsIn_succ]
    have q4 := (Has.new W 3 #[.int .i64 1]).alloc (.cells #[.int .i64 0] 3)
    have q5 := Has.new (W.alloc (.cells #[.int .i64 1] 3)) 3 #[.int .i64 0]
    simp only [World.size_alloc] at q5
    have n2 := Lib.hid (show OMp w9 W.heap.size (W.heap.size + 1) 1 [D] 0 ((W.alloc (.cells #[.int .i64 1] 3)).alloc (.cells #[.int .i64 0] 3)) from
      ⟨(hM1.out.1.alloc hM1.out.1.size _).alloc (by have := hM1.out.1.size; simp; omega) _, q4, q5, fun D' h => by rw [List.mem_singleton.1 h]; exact (hDn'.out.alloc _).alloc _⟩)
    clear q4 q5 e0 eK e4 e5
    gi_wp2
    obtain ⟨w17, hw17⟩ : ∃ w17, (W.alloc (.cells #[.int .i64 1] 3)).alloc (.cells #[.int .i64 0] 3) = w17 := ⟨_, rfl⟩
    have z17 : w17.heap.size = W.heap.size + 1 + 1 := by rw [← hw17]; simp
    rw [hw17] at n2 ⊢
    clear hw17
    have hseq2 := eachP1_at z y bs w9 w17 bM p (W.heap.size + 1) AA PA pc n2.out.1 (by have := hDW.out; omega) (by omega) (by have := hm'.out; omega) hT9.out hEa9.out
    rw [hls'.out] at hseq2
    have hseq2' := Lib.hid hseq2
    clear hseq2
    refine wpIn_range_lowM 2 (gf := 25) (lb := #[.pointer (some ⟨bM, 0, none⟩), .pointer (some ⟨bM + 1, 0, none⟩), .pointer (some ⟨p, 0, none⟩)]) rfl (enters_of Tryz.func25 (by kernel_rfl) rfl)
      hseq2'.out (Below.refl _ _) (fun _ => rfl)
      (OIp w9 ls m W.heap.size (W.heap.size + 1) 1 [D]) (OXp w9 ls m W.heap.size (W.heap.size + 1) 1 [D]) (OMp w9 W.heap.size (W.heap.size + 1) 1 [D] (opCount m ls.length 1))
      (fun pre X Y hs hb => hs.low hb (by have := hDW.out; omega) (by have := hDW.out; omega) (by have := hDW.out; omega) (fun D' h => by rw [List.mem_singleton.1 h]; have := hDW.out; omega)) (fun c pre X Y hs hb => hs.low hb (by have := hDW.out; omega) (by have := hDW.out; omega) (by have := hDW.out; omega) (fun D' h => by rw [List.mem_singleton.1 h]; have := hDW.out; omega))
      ⟨fun _ => .inl rfl, n2.out⟩
      (fun xs V h1 h2 => op_all h1 h2) (fun c pre V h1 h2 => op_left h2)
      (AxB ?Fy 40 (fun y : Nat × Sd => sdC y.2)) (fun y a' V l o o' h h1 h2 => by
        obtain ⟨k, h3, h4⟩ := h
        exact ⟨k, h3, h4.putNon o' h1 h2⟩) ?assign2 ?body2 (fun _ _ h => h) ?rest2
    case assign2 =>
      intro l1 y V K hK
      have hK' := Lib.hid hK
      clear hK
      dsimp only [encS]
      unfold sdC
      gi_wp2
      obtain ⟨k, hk⟩ : ∃ k, V.heap.size = k := ⟨_, rfl⟩
      have hnew := Has.new V 40 (sdC y.2)
      unfold sdC at hnew
      rw [hk] at hnew ⊢
      refine hK'.out _ _ ((Below.refl _ _).alloc (Nat.le_refl _) _) ⟨k, ?_, hnew⟩
      rfl
    case body2 =>
      rintro l1 pre ⟨yn, yd⟩ a' V hlV ⟨r, hr⟩ hVz ⟨hcond, hM⟩ ⟨kx, rfl, hk⟩ hlen hsp
      obtain ⟨rfl, hx⟩ := said_last hsp
      simp only at hx
      obtain ⟨g0, g1, gK, la, _, _⟩ := hF.out V hM.1
      have e0 := g0.cell 0
      have e1c := g1.cell 0
      have f1 := g1.free 0
      have eK := gK.cell 0
      have e4 := hM.2.1.cell 0
      have e5 := hM.2.2.1.cell 0
      have f5 := hM.2.2.1.free 0
      have hk : Has V kx 40 (sdC yd) := hk
      unfold sdC at hk
      have d0 := hk.cell 0
      have d1 := hk.cell 1
      have d2 := hk.cell 2
      have d3 := hk.cell 3
      have d4 := hk.cell 4
      have hM' := Lib.hid hM
      have hcond' := Lib.hid hcond
      have hl1 : Hid ((pre ++ [(pre.length, yd)]).length = pre.length + 1) := Lib.hid (by simp)
      obtain ⟨g, rfl, _, u0, u1, u2, u3, u4⟩ := la _ _ hx
      have hx' := Lib.hid hx
      have hlN2 : pre.length < N := by rw [← hN'.out]; exact hlen
      obtain ⟨pl, hple⟩ : ∃ pl, pre.length = pl := ⟨_, rfl⟩
      have hple' := Lib.hid hple
      rw [hple] at e5 hlN2 u0 u1 u2 u3 u4 ⊢
      have hli : (pl : Int) < (N : Int) := by omega
      have e1 : Hid (((pre ++ [(pl, yd)]).length : Int) = (pl : Int) + 1) := Lib.hid (by simp [hple'.out])
      have hcnt := Lib.hid (fun q => (hM'.out.drewN q).count (by have := hDW.out; omega) (by omega) ((pl : Int) + 1))
      have hso := hlg'.out yd (List.mem_of_getElem? hx)
      have heq := fun w => said_equal yd yd hso hso w
      rw [decide_eq_true rfl] at heq
      unfold sdC at heq
      have hlf : decide (N ≤ pl) = false := decide_eq_false (by omega)
      have hk5 := hM'.out.2.2.1.lt
      clear hcond hM hx hple hlen la g0 g1 gK hk hr hsp hso
      gi_wp2
      refine wpIn_region_calm (by kernel_rfl) (by kernel_rfl) (by kernel_rfl) ?_
      iterate 17 (gi_big_quiet_step (fail))
      refine wpQuietIn_nil ?_
      intro _ hw'
      obtain ⟨nq, hw''⟩ := hw'
      subst hw''
      gi_wp2
      exact ⟨((others_drewN _ _).trans (KeepsOthers.setCell _ _ _)).from _, ⟨by simp, fun j hj hn => (Below.heap_setCell _ ⟨(W.heap.size + 1), 0, none⟩ _ j (fun e => hn (.inl e)))⟩, ⟨fun h => absurd h (by decide), by rw [e1.out]; exact hcnt.out _⟩⟩
    case rest2 =>
      rintro D2 W2 hD2 hM2 hDn2
      rw [hN'.out] at hM2
      obtain ⟨g0, g1, gK, _, hT2, hB2⟩ := hF.out W2 hM2.1
      have hDn2' := Lib.hid hDn2
      have hDW2 := hDn2.lt
      have hne : D < D2 := by have := hDW.out; omega
      have hds := Lib.hid (hM2.2.2.2 D List.mem_cons_self)
      have e0 := g0.cell 0
      have eK := gK.cell 0
      have e4 := hM2.2.1.cell 0
      have e5 := hM2.2.2.1.cell 0
      have g1' := Lib.hid g1
      have gB' := Lib.hid hB2
      have gT := Lib.hid hT2
      have hcn2 : opCount m N 1 = (N : Int) := rfl
      rw [hcn2] at e5
      have hgl1 := g1.lt
      clear hDn2 g0 g1 gK hT2 hB2 hM2 hcn2
      gi_wp2
      rw [roundsIn_succ]
      have e7 := (Has.new W2 3 #[.int .i64 2]).cell 0
      have g1x := g1'.out.alloc (.cells #[.int .i64 2] 3)
      have e8 := g1x.cell 0
      have f8 := g1x.free 0
      have hal2 : Below W2.heap.size W2 (W2.alloc (.cells #[.int .i64 2] 3)) := (Below.refl _ _).alloc (Nat.le_refl _) _
      have hT9x := gT.out.below hal2
      gi_wp2_with fail
      go_wp2_with fail
      with_reducible refine Calls.mono (worksPs_any _ hT9x) ?_
      rintro e w19 ⟨rfl, hb19⟩
      have g9 := g1x.below hb19 g1x.lt
      have e9 := g9.cell 0
      have f9 := g9.free 0
      have k2 := Lib.hid (((hDn2'.out.alloc (.cells #[.int .i64 2] 3)).below hb19 (by simp; omega)).set (i := 0) g9 (.bool true))
      have k1 := Lib.hid (((hds.out.alloc (.cells #[.int .i64 2] 3)).below hb19 (by simp; omega)).set (i := 0) g9 (.bool true))
      have g10 := g9.put 0 (.bool true)
      have hb10 := Lib.hid (((gB'.out.alloc (by omega) (.cells #[.int .i64 2] 3)).trans (hb19.mono (by simp; omega))).setCell (p := ⟨w.heap.size + 1, 0, none⟩) (by simp) (.bool true))
      go_wp2
      have hne2 : D ≠ D2 := by omega
      have k1' := (k1.out.put (.deferred none) hne2)
      refine ⟨by simp, .inl ⟨_, _, rfl, run_takeDeferred k2.out, ⟨by simp, .inl ⟨_, _, rfl, run_takeDeferred k1', ?_⟩⟩⟩⟩
      have g11 := ((g10.put_obj (.deferred none) (l := D2) (by omega)).put_obj (.deferred none) (l := D) (by omega)).cell 0
      refine ⟨.bool true, ?_, rfl, ?_⟩
      · simp [results, Tryz.results3, go_sem, g11]
      · exact (hb10.out.trans (belowK_b (w := w) (Nat.le_refl _) _ D2 _ _ (by omega) k2.out rfl rfl)).trans (belowK_b (w := w) (Nat.le_refl _) _ D _ _ (by omega) k1' rfl rfl)
end Go.Proofs.YtlcfpnegpihicaaGreatDoor
