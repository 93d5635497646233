import Derived.Test.YtabgpnieekcdhaaDoorAnC
import Derived.Test.YtabgpnieekcdhaaDoorR
import Derived.Laws.Rows
import Derived.Deep.MidRow
import Derived.Laws.EntriesVeiled
import Derived.KernelRfl
namespace Go.Proofs.YtabgpnieekcdhaaDoor
open Go.RowKit Go.Shelf
attribute [local go_sem] Oper.semAt_some
attribute [local go_sem] wideF_fn wideF_depth wideF_round

/-! ## The statuses, one by one; a status's reason -/
def statL : List Value := An.stats.flatMap fun p => [Value.int .i64 (p.1 : Int), .string ⟨p.2.toArray⟩]
/-- The table lies as its text lays it. -/
def TabS (W : World) : Prop := ∃ t, W.heap[0]? = some (.cells statL.toArray t (0, 0))
theorem TabS.below {W W' : World} (h : TabS W) (hb : Below W.heap.size W W') : TabS W' := by
  obtain ⟨t, h⟩ := h
  exact ⟨t, (hb.block _ (Array.getElem?_eq_some_iff.1 h).1).trans h⟩
theorem TabS.range {W : World} (h : TabS W) : W.rangeAt 0 0 statL := by
  obtain ⟨t, h⟩ := h
  intro j v hv
  rw [Nat.zero_add, cell_of_row W _ j _ _ _ h]
  simpa using hv
theorem ixStat0 (W : World) : (Instr.index 74 (.agg statL.toArray) (.int .i64 0)).run Tryd.prog W = .ok (.agg #[.int .i64 ((An.stat 0).1 : Int), .string ⟨(An.stat 0).2.toArray⟩]) W := by kernel_rfl
theorem ixStat1 (W : World) : (Instr.index 74 (.agg statL.toArray) (.int .i64 1)).run Tryd.prog W = .ok (.agg #[.int .i64 ((An.stat 1).1 : Int), .string ⟨(An.stat 1).2.toArray⟩]) W := by kernel_rfl
theorem ixStat2 (W : World) : (Instr.index 74 (.agg statL.toArray) (.int .i64 2)).run Tryd.prog W = .ok (.agg #[.int .i64 ((An.stat 2).1 : Int), .string ⟨(An.stat 2).2.toArray⟩]) W := by kernel_rfl
theorem ixStat3 (W : World) : (Instr.index 74 (.agg statL.toArray) (.int .i64 3)).run Tryd.prog W = .ok (.agg #[.int .i64 ((An.stat 3).1 : Int), .string ⟨(An.stat 3).2.toArray⟩]) W := by kernel_rfl
theorem ixStat4 (W : World) : (Instr.index 74 (.agg statL.toArray) (.int .i64 4)).run Tryd.prog W = .ok (.agg #[.int .i64 ((An.stat 4).1 : Int), .string ⟨(An.stat 4).2.toArray⟩]) W := by kernel_rfl
theorem ixStat5 (W : World) : (Instr.index 74 (.agg statL.toArray) (.int .i64 5)).run Tryd.prog W = .ok (.agg #[.int .i64 ((An.stat 5).1 : Int), .string ⟨(An.stat 5).2.toArray⟩]) W := by kernel_rfl
theorem ixStat6 (W : World) : (Instr.index 74 (.agg statL.toArray) (.int .i64 6)).run Tryd.prog W = .ok (.agg #[.int .i64 ((An.stat 6).1 : Int), .string ⟨(An.stat 6).2.toArray⟩]) W := by kernel_rfl
theorem ixStat7 (W : World) : (Instr.index 74 (.agg statL.toArray) (.int .i64 7)).run Tryd.prog W = .ok (.agg #[.int .i64 ((An.stat 7).1 : Int), .string ⟨(An.stat 7).2.toArray⟩]) W := by kernel_rfl
theorem ixStat {k : Nat} (h : k < 8) (W : World) : (Instr.index 74 (.agg statL.toArray) (.int .i64 (k : Int))).run Tryd.prog W = .ok (.agg #[.int .i64 ((An.stat k).1 : Int), .string ⟨(An.stat k).2.toArray⟩]) W := by
  rcases (by omega : k = 0 ∨ k = 1 ∨ k = 2 ∨ k = 3 ∨ k = 4 ∨ k = 5 ∨ k = 6 ∨ k = 7) with rfl | rfl | rfl | rfl | rfl | rfl | rfl | rfl
  · exact ixStat0 W
  · exact ixStat1 W
  · exact ixStat2 W
  · exact ixStat3 W
  · exact ixStat4 W
  · exact ixStat5 W
  · exact ixStat6 W
  · exact ixStat7 W
def encSt (j : Nat) : Array Value := #[.int .i64 ((An.stat j).1 : Int), .string ⟨(An.stat j).2.toArray⟩]
theorem range_snocR (k : Nat) : List.range k ++ [k] = List.range (k + 1) := List.range_succ.symm
set_option maxRecDepth 100000 in
set_option maxHeartbeats 8000000 in
theorem stats1_seq (w : World) (hT : TabS w) :
    SeqOwn 5 Tryd.prog 35 #[] encSt (fun _ _ => True) (fun ys => ys = List.range 8) (fun pre => ∃ j, j < 8 ∧ pre = List.range (j + 1)) 8 w := by
  intro l J Jx W hW hJ hJx hY h0
  have hld := Lib.hid (hT.below hW).range
  have hY' := Lib.hid hY
  have hJ' := Lib.hid hJ
  have h0' := Lib.hid h0
  clear hW hY hJ hJx h0 hT
  refine callsIn_of_wp Tryd.func35 rfl trivial ?_ rfl
  simp only [Tryd.ntmps35, List.size_toArray, List.length_cons, List.length_nil, Nat.reduceAdd, Nat.reduceSub, Array.replicate_succ, Array.replicate_zero, List.push_toArray, List.append_toArray, List.nil_append, List.cons_append]
  refine wpIn_wide.2 ?_
  go_wp2_with (refine wpList_load_mid rfl 74 _ rfl 0 0 rfl statL (.array 8 73) hld.out Tryd.underlying74 rfl (by kernel_rfl) ?_)
  refine (wpIn_wide (n := 5)).1 ?_
  gi_loopw [3, 5] (fun _ x V => ∃ k : Nat, k ≤ 8 ∧ x = .int .i64 (k : Int) ∧ J (List.range k) V ∧ W.heap.size ≤ V.heap.size) (fun _ x _ => 8 - (intOf x).toNat)
  case atStart => exact ⟨0, Nat.zero_le _, rfl, h0'.out, Nat.le_refl _⟩
  case round =>
    obtain ⟨k, hk, rfl, hJk, hz⟩ := hrel
    have hJk' := Lib.hid hJk
    have hz' := Lib.hid hz
    clear hJk hz
    by_cases hlt : k < 8
    · have hltI : (k : Int) < 8 := by omega
      have hix := ixStat hlt
      have hes : Hid (encSt k = #[.int .i64 ((An.stat k).1 : Int), .string ⟨(An.stat k).2.toArray⟩]) := Lib.hid rfl
      generalize (An.stat k).1 = sn at *
      generalize (An.stat k).2 = sr at *
      have hnw := Has.new wr 73 #[.int .i64 (sn : Int), .string ⟨sr.toArray⟩]
      have hbw := (Below.refl wr.heap.size wr).alloc (Nat.le_refl _) (.cells #[.int .i64 (sn : Int), .string ⟨sr.toArray⟩] 73)
      have hj4 := hJ'.out _ wr _ none hJk'.out (grown_below hbw) (fun r e => by cases e)
      obtain ⟨w4, hw4⟩ : ∃ w4, wr.alloc (.cells #[.int .i64 (sn : Int), .string ⟨sr.toArray⟩] 73) = w4 := ⟨_, rfl⟩
      rw [hw4] at hnw hbw hj4
      have x0 := hnw.cell 0
      have x1 := hnw.cell 1
      obtain ⟨fn, tmps, assign, body, hy, hR⟩ := hY'.out _ k w4 hj4 (by rw [List.length_range]; omega)
      rw [hes.out] at hy
      have hy' : (Instr.yield l #[.int .i64 (sn : Int), .string ⟨sr.toArray⟩]).run Tryd.prog w4 = .ok (Next.round l fn tmps assign body) w4 := hy
      have hR' := Lib.hid hR
      have hz4 := Lib.hid (show wr.heap.size ≤ w4.heap.size from hbw.size)
      clear hy hR hbw hj4 hnw
      gi_wp2
      refine hR'.out.mono ?_
      rintro e V3 ⟨hkf, (⟨rfl, hJ3, -⟩ | ⟨rfl, hJx3⟩)⟩
      · have hJ3' := Lib.hid (show J (List.range (k + 1)) V3 from by rw [← range_snocR]; exact hJ3)
        have hz3 := Lib.hid (show W.heap.size ≤ V3.heap.size by have := hkf.size; have := hz4.out; have := hz'.out; omega)
        clear hJ3 hkf
        gi_wp2
        exact ⟨⟨k + 1, by omega, by go_num, hJ3'.out, hz3.out⟩, by simp [intOf]; omega⟩
      · have hJx3' := Lib.hid hJx3
        clear hJx3 hkf
        gi_wp2
        refine bodyPost_ret (results_none rfl _ _ _) rfl ?_
        exact ⟨⟨_, rfl⟩, .inr ⟨_, ⟨k, hlt, range_snocR k⟩, hJx3'.out⟩⟩
    · obtain rfl : k = 8 := by omega
      have hj' := Lib.hid hJk'.out
      gi_wp2
      go_end0
      exact ⟨⟨_, rfl⟩, .inl ⟨_, rfl, hj'.out⟩⟩
theorem statuses_maker (w : World) : Calls Tryd.prog 21 #[] w fun e w' => e = .returned (.func (.func 35) #[] #[]) ∧ w' = w := by
  go_enter Tryd.func21, Tryd.ntmps21
  go_wp2
  go_ret
  exact ⟨rfl, rfl⟩
theorem reason1_any (s x : Int) (b : Nat) (w : World) (h : Has w b 3 #[.int .i64 s]) : Calls Tryd.prog 26 #[.int .i64 x, .pointer (some ⟨b, 0, none⟩)] w fun e w' => e = .returned (.bool (x == s)) ∧ w' = w := by
  have c0 := h.cell 0
  clear h
  go_enter Tryd.func26, Tryd.ntmps26
  go_wp2
  go_ret
  exact ⟨rfl, rfl⟩
end Go.Proofs.YtabgpnieekcdhaaDoor
