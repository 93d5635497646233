import Derived.Test.YtcogdfgmmpfkkaaGreatDoorPk38
namespace Go.Proofs.YtcogdfgmmpfkkaaGreatDoor
open Go.RowKit Go.Shelf
attribute [local go_sem] Oper.semAt_some
attribute [local go_sem] wideF_fn wideF_depth wideF_round

/-! ## A target that may be written -/
theorem map_range_getD {α : Type} (l : List α) (d : α) : (List.range l.length).map (fun y => l.getD y d) = l := by
  apply List.ext_getElem
  · simp
  · intro i h1 h2
    have h3 : i < l.length := h2
    simp [List.getElem?_eq_getElem h3]
theorem oth_has {e : TypeId} {b k : Nat} {W W' : World} {t : TypeId} {cs : Array Value} (h : Lib.OthersKept e (some b) W W') (hk : Has W k t cs) (ht : t ≠ e) (hb : k ≠ b) : Has W' k t cs :=
  h k _ hk (fun e' => hb (Option.some.inj e')) (fun c fz e' => by
    injection e' with _ e' _
    exact ht e')
theorem bu_stringK (B b : Nat) (l : List UInt8) (w : World) (h : BuF B b l w) (hB : B ≤ w.heap.size) :
    Calls Tryz.prog 40 #[.pointer (some ⟨b, 0, none⟩)] w fun e w' => e = .returned (.string ⟨l.toArray⟩) ∧ Below B w w' ∧ Lib.OthersKept 5 (some b) w w' :=
  (Any.Builder_String_any_k (ρ := Tryz.lays158_ren) { Tryz.lays158 with } Tryz.Builder_Extra_158 B b l w h hB).mono fun e w' ⟨h1, _, h3, h4⟩ => ⟨h1, h3, h4⟩
set_option maxRecDepth 100000 in
set_option maxHeartbeats 8000000 in
theorem written_yes (A1 A2 : Option Addr) (c1 c2 : Nat) (t : TgL) (w : World) (hT : TabT w) (hr : rightTg t = true) (hf : FewT t) (hx : Txs w A1 t.1) (hq : Prs w A2 t.2) :
    Calls Tryz.prog 38 #[.agg #[.slice A1 t.1.length c1, .slice A2 t.2.length c2]] w fun e w' => e = .returned (.string ⟨(textTg t).toArray⟩) ∧ Below w.heap.size w w' := by
  obtain ⟨n, hn⟩ : ∃ n, w.heap.size = n := ⟨_, rfl⟩
  obtain ⟨w1, h1⟩ : ∃ w1, w.alloc (.cells #[.slice A1 t.1.length c1, .slice A2 t.2.length c2] 26) = w1 := ⟨_, rfl⟩
  have hB1 : Below w.heap.size w w1 := by rw [← h1]; exact (Below.refl _ _).alloc (Nat.le_refl _) _
  have z0 : Has w1 n 26 #[.slice A1 t.1.length c1, .slice A2 t.2.length c2] := by rw [← h1, ← hn]; exact Has.new _ _ _
  have hz1 : w1.heap.size = n + 1 := by rw [← h1, ← hn]; simp
  have h0 := Lib.hid (ofPart_any w1)
  have hB1' := Lib.hid hB1
  have z0' := Lib.hid z0
  have hx' := Lib.hid hx
  have hT' := Lib.hid hT
  have hq' := Lib.hid hq
  rw [right_split, Bool.and_eq_true, decide_eq_true_eq] at hr
  obtain ⟨hr0, ha⟩ := hr
  have hI : (0 : Int) < (t.1.length : Int) := by omega
  have ha' := Lib.hid (List.all_eq_true.1 ha)
  have hf' := Lib.hid hf
  have hli : (t.1.length : Int) ≤ 1000 := by have := hf.parts; omega
  obtain ⟨es, hes⟩ : ∃ es, t.1.map encL = es := ⟨_, rfl⟩
  have hel : es.length ≤ 1000 := by rw [← hes, List.length_map]; exact hf.parts
  have hes2 : ∀ x ∈ es, x.length ≤ 600000 := by
    rw [← hes]
    intro x hx
    obtain ⟨y, hy, rfl⟩ := List.mem_map.1 hx
    have := hf.part y hy
    have := encL_len y
    omega
  obtain ⟨P, hP⟩ : ∃ P, pathP es = P := ⟨_, rfl⟩
  have hPt : P = pathTx t.1 := by rw [← hP, ← hes, pathP_tx]
  have hPl : P.length ≤ 3001000 := by
    rw [hPt]
    have := pathTx_len t.1 hf.part
    have := hf.parts
    omega
  have hes' := Lib.hid hes
  have hes2' := Lib.hid hes2
  have hP' := Lib.hid hP
  have hPt' := Lib.hid hPt
  have hPl' := Lib.hid hPl
  have hel' := Lib.hid hel
  clear hB1 z0 hx ha hf hT hq hes hes2 hP hPt hPl hel
  refine (callsIn_wide (n := 6)).1 ?_
  refine callsIn_of_wp_marks Tryz.func38 rfl trivial ?_ rfl
  refine wpIn_wide.2 ?_
  simp only [Tryz.ntmps38, List.size_toArray, List.length_cons, List.length_nil, Nat.reduceAdd, Nat.reduceSub, Array.replicate_succ, Array.replicate_zero, List.push_toArray, List.append_toArray, List.nil_append, List.cons_append]
  go_wp2_with (first
    | (go_at_call 62; (with_reducible refine Calls.mono h0.out ?_); rintro e w2 ⟨rfl, hb2⟩; have hB3 := Lib.hid ((hB1'.out.trans (hb2.mono hB1'.out.size)).alloc (by have := hB1'.out.size; have := hb2.size; omega) (.cells #[.func (.func 80) #[] #[], .func (.func 81) #[] #[]] 79)); have z3 := ((z0'.out.below hb2 z0'.out.lt).alloc (.cells #[.func (.func 80) #[] #[], .func (.func 81) #[] #[]] 79)); have k3 := Lib.hid (Has.new w2 79 #[.func (.func 80) #[] #[], .func (.func 81) #[] #[]]); have d0 := z3.cell 0; have d1 := z3.cell 1; have z3' := Lib.hid z3; have hzz := Lib.hid (show n + 1 ≤ w2.heap.size by have := hb2.size; omega); clear hb2 z3)
    | (go_at_call 63; (with_reducible refine Calls.mono (must_yes _ _) ?_); rintro e w7 ⟨rfl, hw7⟩; obtain rfl := hw7.symm))
  obtain ⟨w3, h3⟩ : ∃ w3, w2.alloc (.cells #[.func (.func 80) #[] #[], .func (.func 81) #[] #[]] 79) = w3 := ⟨_, rfl⟩
  rw [h3] at hB3 z3' k3 ⊢
  clear d0 d1 h3
  go_loopw [5, 19] (fun _ x W => ∃ j : Nat, j ≤ t.1.length ∧ x = .int .i64 (j : Int) ∧ Below w3.heap.size w3 W) (fun _ x _ => t.1.length - (intOf x).toNat)
  case atStart => exact ⟨0, Nat.zero_le _, rfl, Below.refl _ _⟩
  case round =>
    obtain ⟨j, hj, rfl, hb⟩ := hrel
    have hb' := Lib.hid hb
    by_cases hlt : j < t.1.length
    · have hltI : (j : Int) < (t.1.length : Int) := by omega
      obtain ⟨b, o, rfl, hbl, hcs⟩ := ((hx'.out.below hB3.out).below hb) (by omega)
      obtain ⟨x, hxj⟩ : ∃ x, t.1[j] = x := ⟨_, rfl⟩
      have c0 := hcs j x (by rw [List.getElem?_eq_getElem hlt, hxj])
      have hxm : x ∈ t.1 := by rw [← hxj]; exact List.getElem_mem hlt
      have hxl := hf'.out.part x hxm
      have h2 := Lib.hid (mustBeP_any 2 x (by omega) w2.heap.size wr (k3.out.below hb k3.out.lt))
      rw [← partB_split] at h2
      unfold MustR at h2
      rw [ha'.out x hxm] at h2
      simp only [if_true] at h2
      clear hcs hb hxm
      go_wp2_with (go_at_call 48; (with_reducible refine Calls.mono h2.out ?_); rintro e w5 ⟨rfl, hb5⟩; have hb5' := Lib.hid hb5; clear hb5)
      exact ⟨⟨j + 1, by omega, by go_num, hb'.out.trans (hb5'.out.mono hb'.out.size)⟩, by simp [intOf]; omega⟩
    · obtain rfl : j = t.1.length := by omega
      clear hb
      obtain ⟨nb, hnb⟩ : ∃ nb, wr.heap.size = nb := ⟨_, rfl⟩
      have hbn := bu_new wr
      have hBa := (Below.refl wr.heap.size wr).alloc (Nat.le_refl _) (.cells #[.pointer none, .slice none 0 0] 66)
      have hza : (wr.alloc (.cells #[.pointer none, .slice none 0 0] 66)).heap.size = nb + 1 := by rw [World.size_alloc, hnb]
      obtain ⟨wa, hwa⟩ : ∃ wa, wr.alloc (.cells #[.pointer none, .slice none 0 0] 66) = wa := ⟨_, rfl⟩
      rw [hwa] at hbn hBa hza
      have zr := z3'.out.below hb'.out z3'.out.lt
      have za := zr.below hBa zr.lt
      have d0 := za.cell 0
      have d1 := za.cell 1
      have hBr : Below w.heap.size w wr := hB3.out.trans (hb'.out.mono hB3.out.size)
      have hBwa : Below w.heap.size w wa := hBr.trans (hBa.mono hBr.size)
      have hm := madestring_any 13 (fun s => some (encL s)) (enters_of Tryz.func13 (by kernel_rfl) rfl) t.1 A1 c1 wa (hT'.out.below hBwa) (hx'.out.below hBwa) (by omega)
        (fun s hs W hW => encodeT_any s W hW.1 (by have := hf'.out.part s hs; omega))
      rw [allL_some, hes'.out] at hm
      unfold MadestringR at hm
      have hm' := Lib.hid hm
      rw [hnb] at hbn hBa
      have hbn' := Lib.hid hbn
      have hBa' := Lib.hid hBa
      have hBr' := Lib.hid hBr
      have za' := Lib.hid za
      have hnz := Lib.hid (show n < nb by have := zr.lt; omega)
      clear hbn hBa hBr hBwa zr za hm
      go_upto_region 10 with (first
        | (go_at_call 53; (with_reducible refine Calls.mono hm'.out ?_); rintro e w5 ⟨⟨v5, rfl, hv5⟩, hb5⟩; obtain ⟨A5, c5, hvs, htx, _⟩ := hv5.txs; subst hvs; have hpc := Lib.hid (pathT_any A5 none 0 c5 0 es w5 hel'.out hes2'.out htx); rw [hP'.out] at hpc; unfold StrR at hpc; have hb5' := Lib.hid hb5; have hz5 := Lib.hid hb5.size; clear hb5 hv5 htx)
        | (go_at_call 19; (with_reducible refine Calls.mono hpc.out ?_); rintro e w6 ⟨rfl, hb6⟩; have hb6' := Lib.hid hb6; have hz6 := Lib.hid hb6.size; have hwc := Lib.hid (bu_write nb nb [] P w6 ((hbn'.out.below hb5'.out).below hb6) (by simp only [List.length_nil]; have := hPl'.out; omega) (by have := hz5.out; have := hb6.size; omega)); clear hb6)
        | (go_at_call 39; (with_reducible refine Calls.mono hwc.out ?_); rintro e w7 ⟨rfl, hu7, hb7, _⟩; have hu7' := Lib.hid hu7; have hb7' := Lib.hid hb7; have hz7 := Lib.hid hb7.size; clear hu7 hb7))
      have hD : Below nb wa w7 := ((hb5'.out.mono (by omega)).trans (hb6'.out.mono (by have := hz5.out; omega))).trans hb7'.out
      have hBw7 : Below w.heap.size w w7 := hBr'.out.trans ((hBa'.out.trans hD).mono (by have := hBr'.out.size; omega))
      have z7 := za'.out.below hD hnz.out
      have hn7 : nb + 1 ≤ w7.heap.size := by have := hD.size; omega
      obtain ⟨ah, hah⟩ : ∃ ah, w7.heap.size = ah := ⟨_, rfl⟩
      obtain ⟨w8, hw8⟩ : ∃ w8, w7.alloc (.cells #[.string ⟨#[]⟩] 9) = w8 := ⟨_, rfl⟩
      have k8 : Has w8 ah 9 #[.string ⟨#[]⟩] := by rw [← hw8, ← hah]; exact Has.new _ _ _
      have hB8 : Below ah w7 w8 := by rw [← hw8, ← hah]; exact (Below.refl _ _).alloc (Nat.le_refl _) _
      have c8 := k8.cell 0
      have f8 := k8.free 0
      have hD' := Lib.hid hD
      have hBw7' := Lib.hid hBw7
      have z7' := Lib.hid z7
      have k8' := Lib.hid k8
      have hB8' := Lib.hid hB8
      clear hD hBw7 z7 k8 hB8 d0 d1
      go_upto_region 11 with (fail)
      obtain ⟨w9, hw9⟩ : ∃ w9, w8.setCell ⟨ah, 0, none⟩ (.string ⟨#[63]⟩) = w9 := ⟨_, rfl⟩
      have k9 : Has w9 ah 9 #[.string ⟨#[63]⟩] := by
        have := k8'.out.put 0 (.string ⟨#[63]⟩)
        rw [hw9] at this
        simpa using this
      have hB9 : Below ah w7 w9 := by rw [← hw9]; exact hB8'.out.setCell (p := ⟨ah, 0, none⟩) (Nat.le_refl _) _
      rw [hw9]
      have hnah : n < nb := hnz.out
      have z9 := z7'.out.below hB9 (by omega)
      have u9 : BuF nb nb P w9 := hu7'.out.below (by rw [hah]; exact hB9)
      have hBw9 : Below w.heap.size w w9 := hBw7'.out.trans (hB9.mono (by have := hBw7'.out.size; omega))
      have d0 := z9.cell 0
      have d1 := z9.cell 1
      have hp := Lib.hid (pairsE_any A1 A2 t.1.length c1 c2 t.2 w9 (by have := hf'.out.pairs; omega) (hq'.out.below hBw9))
      have u9' := Lib.hid u9
      have k9' := Lib.hid k9
      have hBw9' := Lib.hid hBw9
      have hz9 := Lib.hid (show ah < w9.heap.size from k9.lt)
      clear u9 k9 hBw9 z9 hB9 hw9 hw8 c8 f8
      go_wp2_with (go_at_call 23; (with_reducible refine Calls.mono hp.out ?_); rintro e wb ⟨⟨b, v, rfl, hE, _, _, hbz⟩, hbb⟩; have hE' := Lib.hid hE; have hbb' := Lib.hid hbb; have hzb := Lib.hid hbb.size; clear hE hbb hbz)
      have i0 : WrI t.2 P nb ah b v n w [] wb := ⟨by
        have := u9'.out.below hbb'.out
        simpa [queryTx] using this, k9'.out.below hbb'.out k9'.out.lt, hE'.out, by
        have := hBw9'.out.trans (hbb'.out.mono hBw9'.out.size)
        rwa [hn] at this⟩
      have hzw := Lib.hid (show ah < wb.heap.size by have := hz9.out; have := hzb.out; omega)
      clear d0 d1
      refine (wpIn_wide (n := 6)).1 ?_
      refine wpIn_range_all (gf := 44) (lb := #[.pointer (some ⟨b, 0, none⟩)]) rfl (enters_of Tryz.func44 (by kernel_rfl) rfl)
        (pairs1_seq b v t.2 (by have := hf'.out.pairs; omega) (fun q hq => by have := hf'.out.pair q hq; omega) (PairB b v) wb (fun h => h.1 rfl) (fun g e h => h.2 e) hE'.out)
        (fun h k => h.trans k) (fun W l o o' _ h1 h2 _ => KeptC.putObj W l o o' h1 h2) (Below.refl _ _) (fun _ => rfl)
        (WrI t.2 P nb ah b v n w) (fun _ _ _ => False) (fun W => BuF nb nb (P ++ queryTx t.2) W ∧ Below n w W)
        (wrI_from t.2 P nb ah b v n w _ (by omega) (by have := hzw.out; omega) hzw.out) (fun c s X Y row h _ _ => h)
        i0 (fun xs W h1 h2 => ⟨by have := h2.bu; rwa [h1, map_range_getD] at this, h2.below⟩) (fun _ _ _ h => h) ?a1 ?assign ?body ?rest
      case assign =>
        intro l x V K hK
        have hK' := Lib.hid hK
        clear hK
        dsimp only [encQ]
        gi_wp2
        exact hK'.out
      case body =>
        rintro l pre x V ⟨g1, g2, g3, g4⟩ hlen
        obtain ⟨q, hqq⟩ : ∃ q, t.2[x]?.getD ([], []) = q := ⟨_, rfl⟩
        have hqd : t.2.getD x ([], []) = q := (List.getD_eq_getElem?_getD).trans hqq
        have hql : q.1.length ≤ 1000 ∧ q.2.length ≤ 1000 := by
          rw [← hqq]
          rcases Nat.lt_or_ge x t.2.length with h | h
          · rw [List.getElem?_eq_getElem h]
            exact hf'.out.pair _ (List.getElem_mem h)
          · rw [List.getElem?_eq_none h]
            exact ⟨Nat.zero_le _, Nat.zero_le _⟩
        have hql2 : (queryTx (pre.map fun y => t.2.getD y ([], []))).length ≤ 6002000 := by
          have h1 := queryTx_len (pre.map fun y => t.2.getD y ([], [])) (fun q hq => by
            obtain ⟨y, _, rfl⟩ := List.mem_map.1 hq
            rw [List.getD_eq_getElem?_getD]
            rcases Nat.lt_or_ge y t.2.length with h | h
            · rw [List.getElem?_eq_getElem h]
              exact hf'.out.pair _ (List.getElem_mem h)
            · rw [List.getElem?_eq_none h]
              exact ⟨Nat.zero_le _, Nat.zero_le _⟩)
          rw [List.length_map] at h1
          have := hf'.out.pairs
          omega
        obtain ⟨c, hc⟩ : ∃ c, headB pre.length = c := ⟨_, rfl⟩
        rw [hc] at g2
        obtain ⟨T, hTx⟩ : ∃ T, P ++ queryTx (pre.map fun y => t.2.getD y ([], [])) = T := ⟨_, rfl⟩
        rw [hTx] at g1
        have hTl := Lib.hid (show T.length ≤ 9003000 by rw [← hTx, List.length_append]; have := hPl'.out; omega)
        obtain ⟨e1, he1⟩ : ∃ e, encL q.1 = e := ⟨_, rfl⟩
        obtain ⟨e2, he2⟩ : ∃ e, encL q.2 = e := ⟨_, rfl⟩
        have hl1 : e1.length ≤ 3000 := by rw [← he1]; have := encL_len q.1; omega
        have hl2 : e2.length ≤ 3000 := by rw [← he2]; have := encL_len q.2; omega
        have hnew := Lib.hid (show T ++ (c :: (e1 ++ 61 :: e2)) = P ++ queryTx ((pre ++ [x]).map fun y => t.2.getD y ([], [])) by
          rw [List.map_append, List.map_cons, List.map_nil, queryTx_snoc, hqd, List.length_map, ← hTx, ← hc, List.append_assoc]
          unfold headB pairTx
          rw [he1, he2])
        rw [hqq]
        have x0 := fun (V' : Grown V) => (g2.below V'.below g2.lt).cell 0
        have hTV := hT'.out.below (by rw [hn]; exact g4)
        have hc1 := Lib.hid (fun (V' : Grown V) => by
          have h := encodeT_any q.1 V'.v (hTV.below V'.below).1 (by omega)
          rw [he1] at h
          exact CallsIn.inRound l (callsIn_wide (n := 6 - 1 - 1 - 1).2 (grow_call V' h)))
        have hc2 := Lib.hid (fun (V' : Grown V) => by
          have h := encodeT_any q.2 V'.v (hTV.below V'.below).1 (by omega)
          rw [he2] at h
          exact CallsIn.inRound l (callsIn_wide (n := 6 - 1 - 1 - 1).2 (grow_call V' h)))
        have g1' := Lib.hid g1
        have g2' := Lib.hid g2
        have g3' := Lib.hid g3
        have g4' := Lib.hid g4
        have hnV := Lib.hid (show ah < V.heap.size from g2.lt)
        clear g1 g2 g3 g4 hqd hqq hc hTx he1 he2 hql hql2 hTV
        gi_wp2
        refine wpIn_region_grow_tail 8 (by kernel_rfl) (by kernel_rfl) (by kernel_rfl) ?_
        simp only [List.take_succ_cons, List.take_zero, List.drop_succ_cons, List.drop_zero]
        iterate 8 (gi_big_quiet_step ((gi_at_call 13; first | (with_reducible exact hc1.out _) | (with_reducible exact hc2.out _))))
        refine wpQuietIn_nil ?_
        intro _ hw'
        obtain ⟨V', hw''⟩ := hw'
        subst hw''
        simp only [cat4]
        have hzV := V'.below.size
        have hw1 := Lib.hid (CallsIn.inRound l (callsIn_wide (n := 6 - 1 - 1 - 1).2 (bu_write nb nb T (c :: (e1 ++ 61 :: e2)) V'.v (g1'.out.below V'.below) (by have := hTl.out; rw [List.length_cons, List.length_append, List.length_cons]; omega) (by have := hnV.out; omega))))
        have hgV := Lib.hid (g2'.out.below V'.below g2'.out.lt)
        gi_wp2_with (gi_at_call 39; (with_reducible refine CallsIn.mono hw1.out ?_); rintro e V3 ⟨rfl, hu3, hb3, hk3⟩; have g3' := oth_has hk3 hgV.out (by decide) (by have := hah; omega); have y3 := g3'.cell 0; have f3 := g3'.free 0; have g3'' := Lib.hid g3'; have hu3' := Lib.hid hu3; have hb3' := Lib.hid hb3; have hk3' := Lib.hid hk3; clear hu3 hb3 hk3 g3')
        have hKP : KeepP V (V3.setCell ⟨ah, 0, none⟩ (.string ⟨#[38]⟩)) := (KeepP.below V'.below).trans ((KeepP.others (g1'.out.below V'.below) hk3'.out hb3'.out.size).trans (KeepP.set g3''.out _))
        refine ⟨hKP.from _, hKP.keptC g3'.out, ?_, ?_, hKP.env g3'.out, ?_⟩
        · rw [← hnew.out]
          exact hu3'.out.set g3''.out _
        · have := g3''.out.put 0 (.string ⟨#[38]⟩)
          rw [show headB (pre ++ [x]).length = 38 by rw [List.length_append]; rfl]
          simpa using this
        · exact ((g4'.out.trans (V'.below.mono (by have := g4'.out.size; have := hnV.out; omega))).trans (hb3'.out.mono (by omega))).setCell (p := ⟨ah, 0, none⟩) (by show n ≤ ah; omega) _
      case rest =>
        rintro D V hDz ⟨hu, hbV⟩ hk
        have hs := Lib.hid (bu_stringK nb nb (P ++ queryTx t.2) V hu (by have := hzw.out; have := hk.lt; omega))
        obtain ⟨tx, htx⟩ : ∃ tx, P ++ queryTx t.2 = tx := ⟨_, rfl⟩
        rw [htx] at hs
        have htx' := Lib.hid (show tx = textTg t by rw [← htx, hPt'.out]; rfl)
        have hbV' := Lib.hid hbV
        have hk' := Lib.hid hk
        have hDb := Lib.hid (show nb < D by have := hzw.out; omega)
        clear hu hbV hk htx hDz
        go_wp2_with (go_at_call 40; (with_reducible refine Calls.mono hs.out ?_); rintro e V2 ⟨rfl, hb2, hk2⟩; have hb2' := Lib.hid hb2; have hk2' := Lib.hid hk2; clear hb2 hk2)
        have hkq : NoCalls V2 D := hk2'.out D _ hk'.out (by have := hDb.out; intro e; injection e with e; omega) (by intro c fz e; cases e)
        refine ⟨by simp, .inl ⟨_, _, rfl, run_takeDeferred hkq, ?_⟩⟩
        refine ⟨.string ⟨tx.toArray⟩, ?_, by rw [htx'.out], ?_⟩
        · simp [results, Tryz.results38, go_sem]
        · rw [hn]
          exact (hbV'.out.trans (hb2'.out.mono (by omega))).trans (belowK_b (w := w) (Nat.le_of_eq hn.symm) V2 D _ _ (by have := hDb.out; omega) hkq rfl rfl)
end Go.Proofs.YtcogdfgmmpfkkaaGreatDoor
