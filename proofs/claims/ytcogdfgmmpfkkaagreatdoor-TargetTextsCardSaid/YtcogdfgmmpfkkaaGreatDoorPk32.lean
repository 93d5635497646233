import Derived.Test.YtcogdfgmmpfkkaaGreatDoorPk24
import Derived.Test.YtcogdfgmmpfkkaaGreatDoorPk31
namespace Go.Proofs.YtcogdfgmmpfkkaaGreatDoor
open Go.RowKit Go.Shelf
attribute [local go_sem] Oper.semAt_some
attribute [local go_sem] wideF_fn wideF_depth wideF_round

/-! ## Pairs, gone over -/
theorem cloneT_any (s : List UInt8) (w : World) (hs : s.length ≤ 600000) : Calls Tryz.prog 45 #[.string ⟨s.toArray⟩] w fun e w' => e = .returned (.string ⟨s.toArray⟩) ∧ Below w.heap.size w w' := by
  have hc := Lib.hid (Tryz.stringslite_Clone ⟨s.toArray⟩ w (by show s.length ≤ _; omega))
  go_enter Tryz.func45, Tryz.ntmps45
  go_wp2_with (go_at_call 65; (with_reducible refine Calls.mono hc.out ?_); rintro e w2 ⟨rfl, hb2⟩; have hb2' := Lib.hid hb2; clear hb2)
  go_ret
  exact ⟨rfl, hb2'.out⟩
theorem range_snoc (k : Nat) : List.range k ++ [k] = List.range (k + 1) := List.range_succ.symm
theorem PrEnv.kept {W W' : World} {b : Nat} {v : Value} {qs : List PairL} {S : Nat → Prop} (h : PrEnv W b v qs) (hb : ¬ S b) (hr : ∀ g, v.ownBlock = some g → ¬ S g) (hk : KeptC S W W') : PrEnv W' b v qs := by
  refine ⟨hk.kept b _ _ h.box hb, h.row.kept fun g hg => ?_⟩
  obtain ⟨_, cs, hcs⟩ := h.row.own g hg
  exact (hk.kept g _ _ hcs (hr g hg)).trans hcs.symm
set_option maxRecDepth 100000 in
set_option maxHeartbeats 4000000 in
theorem pairs1_seq (b : Nat) (v : Value) (qs : List PairL) (hl : qs.length ≤ 900000) (hq : ∀ q ∈ qs, q.1.length ≤ 600000 ∧ q.2.length ≤ 600000) (S : Nat → Prop) (w : World) (hSb : ¬ S b) (hSr : ∀ g, v.ownBlock = some g → ¬ S g) (hE : PrEnv w b v qs) :
    SeqOwn 5 Tryz.prog 44 #[.pointer (some ⟨b, 0, none⟩)] (encQ qs) (KeptC S) (fun ys => ys = List.range qs.length) (fun pre => ∃ j, j < qs.length ∧ pre = List.range (j + 1)) qs.length w := by
  intro l J Jx W hW hJ hJx hY h0
  have hEW := hE.below hW
  obtain ⟨A, c, hv, _⟩ := hEW.row.prs
  subst hv
  have c0 := hEW.box.cell 0
  have hEW' := Lib.hid hEW
  have hY' := Lib.hid hY
  have hJ' := Lib.hid hJ
  have hJx' := Lib.hid hJx
  have h0' := Lib.hid h0
  have hq' := Lib.hid hq
  have hSb' := Lib.hid hSb
  have hSr' := Lib.hid hSr
  have hli : (qs.length : Int) ≤ 900000 := by omega
  clear hE hEW hW hY hJ hJx h0 hq hSb hSr
  refine callsIn_of_wp Tryz.func44 rfl trivial ?_ rfl
  simp only [Tryz.ntmps44, List.size_toArray, List.length_cons, List.length_nil, Nat.reduceAdd, Nat.reduceSub, Array.replicate_succ, Array.replicate_zero, List.push_toArray, List.append_toArray, List.nil_append, List.cons_append]
  gi_wp2
  gi_loopw [4, 7] (fun _ x V => ∃ k : Nat, k ≤ qs.length ∧ x = .int .i64 (k : Int) ∧ J (List.range k) V ∧ PrEnv V b (.slice A qs.length c) qs ∧ W.heap.size ≤ V.heap.size) (fun _ x _ => qs.length - (intOf x).toNat)
  case atStart => exact ⟨0, Nat.zero_le _, rfl, h0'.out, hEW'.out, Nat.le_refl _⟩
  case round =>
    obtain ⟨k, hk, rfl, hJk, hE, hz⟩ := hrel
    have hJk' := Lib.hid hJk
    have hE' := Lib.hid hE
    have hz' := Lib.hid hz
    clear hJk hz
    by_cases hlt : k < qs.length
    · have hltI : (k : Int) < (qs.length : Int) := by omega
      obtain ⟨A', c', e', hpr⟩ := hE.row.prs
      injection e' with e1 e2 e3
      subst e1 e3
      obtain ⟨bk, o, rfl, hbl, hcs⟩ := hpr (by omega)
      obtain ⟨q, hqk⟩ : ∃ q, qs[k] = q := ⟨_, rfl⟩
      obtain ⟨d0, d1⟩ := hcs k q (by rw [List.getElem?_eq_getElem hlt, hqk])
      have hql := hq'.out q (by rw [← hqk]; exact List.getElem_mem hlt)
      have henc := Lib.hid (show encQ qs k = #[.string ⟨q.1.toArray⟩, .string ⟨q.2.toArray⟩] by unfold encQ; rw [List.getD_eq_getElem?_getD, List.getElem?_eq_getElem hlt, hqk]; rfl)
      clear hE hpr hcs hqk
      obtain ⟨k1, k2⟩ := q
      simp only at d0 d1 hql henc
      have hnw := Has.new wr 46 #[.string ⟨k1.toArray⟩, .string ⟨k2.toArray⟩]
      have hbw := (Below.refl wr.heap.size wr).alloc (Nat.le_refl _) (.cells #[.string ⟨k1.toArray⟩, .string ⟨k2.toArray⟩] 46)
      have hj4 := hJ'.out.alloc (.cells #[.string ⟨k1.toArray⟩, .string ⟨k2.toArray⟩] 46) hJk'.out
      have hE4 := hE'.out.below hbw
      have hz4 : wr.heap.size < (wr.alloc (.cells #[.string ⟨k1.toArray⟩, .string ⟨k2.toArray⟩] 46)).heap.size := by simp
      obtain ⟨w4, hw4⟩ : ∃ w4, wr.alloc (.cells #[.string ⟨k1.toArray⟩, .string ⟨k2.toArray⟩] 46) = w4 := ⟨_, rfl⟩
      rw [hw4] at hnw hj4 hE4 hz4
      have x0 := fun (V' : Grown w4) => (hnw.below V'.below hnw.lt).cell 0
      have x1 := fun (V' : Grown w4) => (hnw.below V'.below hnw.lt).cell 1
      have hc1 := Lib.hid (fun (V' : Grown w4) => callsIn_wide (n := 5 - 1).2 (grow_call V' (cloneT_any k1 V'.v hql.1)))
      have hc2 := Lib.hid (fun (V' : Grown w4) => callsIn_wide (n := 5 - 1).2 (grow_call V' (cloneT_any k2 V'.v hql.2)))
      have hj4' := Lib.hid hj4
      have hE4' := Lib.hid hE4
      have hz4' := Lib.hid hz4
      clear hnw hj4 hE4 hz4 hbw
      gi_wp2
      refine wpIn_region_grow_tail 7 (by kernel_rfl) (by kernel_rfl) (by kernel_rfl) ?_
      simp only [List.take_succ_cons, List.take_zero, List.drop_succ_cons, List.drop_zero]
      iterate 7 (gi_big_quiet_step ((gi_at_call 45; first | (with_reducible exact hc1.out _) | (with_reducible exact hc2.out _))))
      refine wpQuietIn_nil ?_
      intro _ hw'
      obtain ⟨V', hw''⟩ := hw'
      subst hw''
      have hj5 := Lib.hid (hJ'.out _ w4 V'.v none hj4'.out (grown_below V'.below) (fun r e => by cases e))
      obtain ⟨fn, tmps, assign, body, hy, hR⟩ := hY'.out _ k V'.v hj5.out (by rw [List.length_range]; exact hlt)
      rw [henc.out] at hy
      have hy' : (Instr.yield l #[.string ⟨k1.toArray⟩, .string ⟨k2.toArray⟩]).run Tryz.prog V'.v = .ok (Next.round l fn tmps assign body) V'.v := hy
      have hR' := Lib.hid hR
      clear hy hR
      gi_wp2
      refine hR'.out.mono ?_
      rintro e V3 ⟨hkf, (⟨rfl, hJ3, hK3⟩ | ⟨rfl, hJx3⟩)⟩
      · have hJ3' := Lib.hid hJ3
        have hE3 := Lib.hid ((hE4'.out.below V'.below).kept hSb'.out hSr'.out hK3)
        have hz3 := Lib.hid (show W.heap.size ≤ V3.heap.size by have := hK3.size; have := V'.below.size; have := hz'.out; have := hz4'.out; omega)
        clear hJ3 hK3 hkf
        gi_wp2
        exact ⟨⟨k + 1, by omega, by go_num, by rw [← range_snoc]; exact hJ3'.out, hE3.out, hz3.out⟩, by simp [intOf]; omega⟩
      · have hJx3' := Lib.hid hJx3
        clear hJx3 hkf
        gi_wp2
        refine bodyPost_ret (results_none rfl _ _ _) rfl ?_
        exact ⟨⟨_, rfl⟩, .inr ⟨_, ⟨k, hlt, range_snoc k⟩, hJx3'.out⟩⟩
    · obtain rfl : k = qs.length := by omega
      gi_wp2
      go_end0
      exact ⟨⟨_, rfl⟩, .inl ⟨_, rfl, hJk'.out⟩⟩
end Go.Proofs.YtcogdfgmmpfkkaaGreatDoor
