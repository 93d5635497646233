import Derived.Test.YtbmemkbfignlaaaGreatDoorPk42
import Derived.Test.YtbmemkbfignlaaaGreatDoorPk30
import Derived.Test.YtbmemkbfignlaaaGreatDoorPk18
import Derived.Laws.Rows
namespace Go.Proofs.YtbmemkbfignlaaaGreatDoor
open Go.RowKit Go.Shelf
attribute [local go_sem] Oper.semAt_some
attribute [local go_sem] wideF_fn wideF_depth wideF_round

/-! ## The statuses, one by one -/
def asksV : Value := .agg #[.int .i64 400, .func (.func 114) #[] #[], .int .i64 400, .func (.func 115) #[] #[], .int .i64 400, .func (.func 116) #[] #[], .int .i64 400, .func (.func 117) #[] #[], .int .i64 400, .func (.func 118) #[] #[], .int .i64 505, .func (.func 119) #[] #[], .int .i64 405, .func (.func 120) #[] #[], .int .i64 406, .func (.func 121) #[] #[], .int .i64 200, .func (.func 122) #[] #[]]
set_option maxRecDepth 100000 in
set_option maxHeartbeats 2000000 in
theorem asks_any (w : World) : Calls Tryz.prog 86 #[] w fun e w' => e = .returned asksV ∧ Below w.heap.size w w' := by
  have k := Has.new w 130 #[.int .i64 400, .func (.func 114) #[] #[], .int .i64 400, .func (.func 115) #[] #[], .int .i64 400, .func (.func 116) #[] #[], .int .i64 400, .func (.func 117) #[] #[], .int .i64 400, .func (.func 118) #[] #[], .int .i64 505, .func (.func 119) #[] #[], .int .i64 405, .func (.func 120) #[] #[], .int .i64 406, .func (.func 121) #[] #[], .int .i64 200, .func (.func 122) #[] #[]]
  have hB := Lib.hid ((Below.refl w.heap.size w).alloc (Nat.le_refl _) (.cells #[.int .i64 400, .func (.func 114) #[] #[], .int .i64 400, .func (.func 115) #[] #[], .int .i64 400, .func (.func 116) #[] #[], .int .i64 400, .func (.func 117) #[] #[], .int .i64 400, .func (.func 118) #[] #[], .int .i64 505, .func (.func 119) #[] #[], .int .i64 405, .func (.func 120) #[] #[], .int .i64 406, .func (.func 121) #[] #[], .int .i64 200, .func (.func 122) #[] #[]] 130))
  obtain ⟨w1, hw1⟩ : ∃ w1, w.alloc (.cells #[.int .i64 400, .func (.func 114) #[] #[], .int .i64 400, .func (.func 115) #[] #[], .int .i64 400, .func (.func 116) #[] #[], .int .i64 400, .func (.func 117) #[] #[], .int .i64 400, .func (.func 118) #[] #[], .int .i64 505, .func (.func 119) #[] #[], .int .i64 405, .func (.func 120) #[] #[], .int .i64 406, .func (.func 121) #[] #[], .int .i64 200, .func (.func 122) #[] #[]] 130) = w1 := ⟨_, rfl⟩
  rw [hw1] at k hB
  have hl : (loadVar 130 ⟨w.heap.size, 0, none⟩).run Tryz.prog w1 = .ok asksV w1 := run_loadVar_row w1 w.heap.size 130 130 _ (0, 0) _ k Tryz.underlying130 rfl (by kernel_rfl)
  have hl' := Lib.hid hl
  clear k hl
  go_enter Tryz.func86, Tryz.ntmps86
  go_wp2
  try rw [hw1]
  refine bodyPost_ret (v := asksV) ?_ rfl ⟨rfl, hB.out⟩
  simp [results, Tryz.results86, asAddr, hl'.out]
end Go.Proofs.YtbmemkbfignlaaaGreatDoor

namespace Go.Proofs.YtbmemkbfignlaaaGreatDoor
open Go.RowKit Go.Shelf
attribute [local go_sem] Oper.semAt_some
attribute [local go_sem] wideF_fn wideF_depth wideF_round

/-! ## The statuses, one by one -/
/-- What a round leaves alone: all that was there at first, and all cells but one block's. -/
structure KpS (B n : Nat) (W W' : World) : Prop where
  size : W.heap.size ≤ W'.heap.size
  old : ∀ k, k < B → W'.heap[k]? = W.heap[k]?
  kept : ∀ (k : Nat) (t : TypeId) (cs : Array Value), Has W k t cs → k ≠ n → Has W' k t cs
theorem KpS.trans {B n : Nat} {X Y Z : World} (h : KpS B n X Y) (k : KpS B n Y Z) : KpS B n X Z := ⟨Nat.le_trans h.size k.size, fun i hi => (k.old i hi).trans (h.old i hi), fun i t cs h1 h2 => k.kept i t cs (h.kept i t cs h1 h2) h2⟩
theorem KpS.refl (B n : Nat) (W : World) : KpS B n W W := ⟨Nat.le_refl _, fun _ _ => rfl, fun _ _ _ h _ => h⟩
theorem KpS.putObj {B n : Nat} (W : World) (l : Nat) (o o' : Obj) (hl : B ≤ l) (h : W.heap[l]? = some o) (hc : o.isCells = false) : KpS B n W (W.putObj l o') :=
  ⟨by simp [World.putObj], fun k hk => World.putObj_heap_other (by omega), fun k t cs h1 _ => (KeptC.putObj (S := fun _ => False) W l o o' h hc).kept k t cs h1 (fun h => h)⟩
theorem LkE.same {W W' : World} {b : Nat} {L : Rr.Lk} (h : LkE W b L) (hs : ∀ k, k < W.heap.size → W'.heap[k]? = W.heap[k]?) (hz : W.heap.size ≤ W'.heap.size) : LkE W' b L := by
  obtain ⟨A, c, B1, c1, B2, c2, h1, h2, h3, h4⟩ := h.box
  have pr : ∀ {A : Option Addr} {l : List PairL}, Prs W A l → Prs W' A l := fun h h0 => by
    obtain ⟨b, o, rfl, hlt, hc⟩ := h h0
    refine ⟨b, o, rfl, Nat.lt_of_lt_of_le hlt hz, fun i x hx => ?_⟩
    obtain ⟨q1, q2⟩ := hc i x hx
    exact ⟨(World.cell?_of_block (hs b hlt)).trans q1, (World.cell?_of_block (hs b hlt)).trans q2⟩
  refine ⟨A, c, B1, c1, B2, c2, (hs b h1.lt).trans h1, pr h2, fun h0 => ?_, pr h4⟩
  obtain ⟨b, o, rfl, hlt, hc⟩ := h3 h0
  exact ⟨b, o, rfl, Nat.lt_of_lt_of_le hlt hz, fun i x hx => (World.cell?_of_block (hs b hlt)).trans (hc i x hx)⟩
theorem TabA.same {W W' : World} (h : TabA W) (hs : ∀ k, k < W.heap.size → W'.heap[k]? = W.heap[k]?) : TabA W' := by
  obtain ⟨m, hm⟩ := h
  exact ⟨m, (hs _ hm.lt).trans hm⟩
def encSt (g : Nat → Bool) (j : Nat) : Array Value := #[.int .i64 (Rr.stat j : Int), .bool (g j)]
theorem range_snocR (k : Nat) : List.range k ++ [k] = List.range (k + 1) := List.range_succ.symm
set_option maxRecDepth 100000 in
set_option maxHeartbeats 16000000 in
theorem stat1_seq (b bp B n : Nat) (L : Rr.Lk) (w0 w : World) (hF : FewLk L) (hE : LkE w0 b L) (hT : TabA w0) (hB : w0.heap.size = B) (hw : Below B w0 w) (kp : Has w bp 73 #[.pointer (some ⟨b, 0, none⟩)]) (hbp : bp ≠ n) :
    SeqOwn 5 Tryz.prog 85 #[.pointer (some ⟨bp, 0, none⟩)] (encSt (Rr.chk L)) (KpS B n) (fun ys => ys = List.range 9) (fun pre => ∃ j, j < 9 ∧ pre = List.range (j + 1)) 9 w := by
  intro l J Jx W hW hJ hJx hY h0
  have kpW := kp.below hW kp.lt
  have hsW : ∀ k, k < B → W.heap[k]? = w0.heap[k]? := fun k hk => (hW.block k (by have := hw.size; omega)).trans (hw.block k hk)
  have hBW : B ≤ W.heap.size := by have := hw.size; have := hW.size; omega
  have ha := Lib.hid (callsIn_wide (n := 5 - 1).2 (asks_any W))
  have kpW' := Lib.hid kpW
  have hsW' := Lib.hid hsW
  have hY' := Lib.hid hY
  have hJ' := Lib.hid hJ
  have hJx' := Lib.hid hJx
  have h0' := Lib.hid h0
  have hE' := Lib.hid hE
  have hT' := Lib.hid hT
  have hB' := Lib.hid hB
  clear hE hW hY hJ hJx h0 kp kpW hsW hT hw hB
  unfold asksV at ha
  obtain ⟨g, hg⟩ : ∃ g, Rr.chk L = g := ⟨_, rfl⟩
  rw [hg] at hY'
  have hg' := Lib.hid hg
  clear hg
  refine callsIn_of_wp Tryz.func85 rfl trivial ?_ rfl
  simp only [Tryz.ntmps85, List.size_toArray, List.length_cons, List.length_nil, Nat.reduceAdd, Nat.reduceSub, Array.replicate_succ, Array.replicate_zero, List.push_toArray, List.append_toArray, List.nil_append, List.cons_append]
  gi_wp2_with (gi_at_call 86; (with_reducible refine CallsIn.mono ha.out ?_); rintro e w2 ⟨rfl, hb2⟩; have hb2' := Lib.hid hb2; clear hb2)
  gi_loopw [4, 6] (fun _ x V => ∃ k : Nat, k ≤ 9 ∧ x = .int .i64 (k : Int) ∧ J (List.range k) V ∧ (∀ i, i < B → V.heap[i]? = w0.heap[i]?) ∧ Has V bp 73 #[.pointer (some ⟨b, 0, none⟩)] ∧ W.heap.size ≤ V.heap.size) (fun _ x _ => 9 - (intOf x).toNat)
  case atStart => exact ⟨0, Nat.zero_le _, rfl, hJ'.out _ W w2 none h0'.out (grown_below hb2'.out) (fun r e => by cases e), fun i hi => (hb2'.out.block i (by omega)).trans (hsW'.out i hi), kpW'.out.below hb2'.out kpW'.out.lt, hb2'.out.size⟩
  case round =>
    obtain ⟨k, hk, rfl, hJk, hs, hp, hz⟩ := hrel
    have hLV : ∀ X : World, Below wr.heap.size wr X → LkE X b L := fun X hX => hE'.out.same (fun i hi => by rw [hB'.out] at hi; exact (hX.block i (by omega)).trans (hs i hi)) (by have := hX.size; have := hB'.out; omega)
    have hTV : ∀ X : World, Below wr.heap.size wr X → TabA X := fun X hX => hT'.out.same (fun i hi => by rw [hB'.out] at hi; exact (hX.block i (by omega)).trans (hs i hi))
    have hJk' := Lib.hid hJk
    have hs' := Lib.hid hs
    have hp' := Lib.hid hp
    have hz' := Lib.hid hz
    have hLV' := Lib.hid hLV
    have hTV' := Lib.hid hTV
    clear hJk hs hp hz hLV hTV
    rcases (by omega : k = 0 ∨ k = 1 ∨ k = 2 ∨ k = 3 ∨ k = 4 ∨ k = 5 ∨ k = 6 ∨ k = 7 ∨ k = 8 ∨ k = 9) with rfl | rfl | rfl | rfl | rfl | rfl | rfl | rfl | rfl | rfl
    · have hnw := Has.new wr 129 #[.int .i64 400, .func (.func 114) #[] #[]]
      have hbw := (Below.refl wr.heap.size wr).alloc (Nat.le_refl _) (.cells #[.int .i64 400, .func (.func 114) #[] #[]] 129)
      have hj4 := hJ'.out _ wr _ none hJk'.out (grown_below hbw) (fun r e => by cases e)
      obtain ⟨w4, hw4⟩ : ∃ w4, wr.alloc (.cells #[.int .i64 400, .func (.func 114) #[] #[]] 129) = w4 := ⟨_, rfl⟩
      rw [hw4] at hnw hbw hj4
      have hp4 := hp'.out.below hbw hp'.out.lt
      have x0 := fun (V' : Grown w4) => (hnw.below V'.below hnw.lt).cell 0
      have x1 := fun (V' : Grown w4) => (hnw.below V'.below hnw.lt).cell 1
      have x2 := fun (V' : Grown w4) => (hp4.below V'.below hp4.lt).cell 0
      have t1 := Lib.hid (fun (V' : Grown w4) => callsIn_wide (n := 5 - 1).2 (grow_call V' (show Calls Tryz.prog 114 #[.pointer (some ⟨b, 0, none⟩)] V'.v fun e w' => e = .returned (.bool (g 0)) ∧ Below V'.v.heap.size V'.v w' from by rw [← hg'.out]; exact ask0 b L V'.v (hLV'.out _ (hbw.trans (V'.below.mono hbw.size))) hF)))
      have hbw' := Lib.hid hbw
      have hj4' := Lib.hid hj4
      clear hnw hbw hj4 hp4
      have hix : ∀ W, (Instr.index 130 (.agg #[.int .i64 400, .func (.func 114) #[] #[], .int .i64 400, .func (.func 115) #[] #[], .int .i64 400, .func (.func 116) #[] #[], .int .i64 400, .func (.func 117) #[] #[], .int .i64 400, .func (.func 118) #[] #[], .int .i64 505, .func (.func 119) #[] #[], .int .i64 405, .func (.func 120) #[] #[], .int .i64 406, .func (.func 121) #[] #[], .int .i64 200, .func (.func 122) #[] #[]]) (.int .i64 0)).run Tryz.prog W = .ok (.agg #[.int .i64 400, .func (.func 114) #[] #[]]) W := fun _ => by kernel_rfl
      simp only [Int.cast_ofNat_Int]
      gi_wp2
      refine wpIn_region_grow_tail 7 (by kernel_rfl) (by kernel_rfl) (by kernel_rfl) ?_
      simp only [List.take_succ_cons, List.take_zero, List.drop_succ_cons, List.drop_zero]
      iterate 7 (gi_big_quiet_step ((gi_at_call 114; (with_reducible exact t1.out _))))
      refine wpQuietIn_nil ?_
      intro _ hw'
      obtain ⟨V', hw''⟩ := hw'
      subst hw''
      have hbV := Lib.hid (show Below wr.heap.size wr V'.v from hbw'.out.trans (V'.below.mono hbw'.out.size))
      have hj5 := Lib.hid (hJ'.out _ w4 V'.v none hj4'.out (grown_below V'.below) (fun r e => by cases e))
      obtain ⟨fn, tmps, assign, body, hy, hR⟩ := hY'.out _ 0 V'.v hj5.out (by rw [List.length_range]; omega)
      have hy' : (Instr.yield l #[.int .i64 400, .bool (g 0)]).run Tryz.prog V'.v = .ok (Next.round l fn tmps assign body) V'.v := hy
      have hR' := Lib.hid hR
      clear hy hR
      gi_wp2
      refine hR'.out.mono ?_
      rintro e V3 ⟨hkf, (⟨rfl, hJ3, hK3⟩ | ⟨rfl, hJx3⟩)⟩
      · have hJ3' := Lib.hid (show J (List.range (0 + 1)) V3 from by rw [← range_snocR]; exact hJ3)
        have hs3 := Lib.hid (show ∀ i, i < B → V3.heap[i]? = w0.heap[i]? from fun i hi => (hK3.old i hi).trans ((hbV.out.block i (by have := hz'.out; omega)).trans (hs'.out i hi)))
        have hp3 := Lib.hid (hK3.kept bp _ _ (hp'.out.below hbV.out hp'.out.lt) hbp)
        have hz3 := Lib.hid (show W.heap.size ≤ V3.heap.size by have := hK3.size; have := hbV.out.size; have := hz'.out; omega)
        clear hJ3 hK3 hkf
        gi_wp2
        exact ⟨⟨0 + 1, by omega, rfl, hJ3'.out, hs3.out, hp3.out, hz3.out⟩, by simp [intOf]⟩
      · have hJx3' := Lib.hid hJx3
        clear hJx3 hkf
        gi_wp2
        refine bodyPost_ret (results_none rfl _ _ _) rfl ?_
        exact ⟨⟨_, rfl⟩, .inr ⟨_, ⟨0, by omega, range_snocR 0⟩, hJx3'.out⟩⟩
    · have hnw := Has.new wr 129 #[.int .i64 400, .func (.func 115) #[] #[]]
      have hbw := (Below.refl wr.heap.size wr).alloc (Nat.le_refl _) (.cells #[.int .i64 400, .func (.func 115) #[] #[]] 129)
      have hj4 := hJ'.out _ wr _ none hJk'.out (grown_below hbw) (fun r e => by cases e)
      obtain ⟨w4, hw4⟩ : ∃ w4, wr.alloc (.cells #[.int .i64 400, .func (.func 115) #[] #[]] 129) = w4 := ⟨_, rfl⟩
      rw [hw4] at hnw hbw hj4
      have hp4 := hp'.out.below hbw hp'.out.lt
      have x0 := fun (V' : Grown w4) => (hnw.below V'.below hnw.lt).cell 0
      have x1 := fun (V' : Grown w4) => (hnw.below V'.below hnw.lt).cell 1
      have x2 := fun (V' : Grown w4) => (hp4.below V'.below hp4.lt).cell 0
      have t1 := Lib.hid (fun (V' : Grown w4) => callsIn_wide (n := 5 - 1).2 (grow_call V' (show Calls Tryz.prog 115 #[.pointer (some ⟨b, 0, none⟩)] V'.v fun e w' => e = .returned (.bool (g 1)) ∧ Below V'.v.heap.size V'.v w' from by rw [← hg'.out]; exact ask1 b L V'.v (hLV'.out _ (hbw.trans (V'.below.mono hbw.size))) hF)))
      have hbw' := Lib.hid hbw
      have hj4' := Lib.hid hj4
      clear hnw hbw hj4 hp4
      have hix : ∀ W, (Instr.index 130 (.agg #[.int .i64 400, .func (.func 114) #[] #[], .int .i64 400, .func (.func 115) #[] #[], .int .i64 400, .func (.func 116) #[] #[], .int .i64 400, .func (.func 117) #[] #[], .int .i64 400, .func (.func 118) #[] #[], .int .i64 505, .func (.func 119) #[] #[], .int .i64 405, .func (.func 120) #[] #[], .int .i64 406, .func (.func 121) #[] #[], .int .i64 200, .func (.func 122) #[] #[]]) (.int .i64 1)).run Tryz.prog W = .ok (.agg #[.int .i64 400, .func (.func 115) #[] #[]]) W := fun _ => by kernel_rfl
      simp only [Int.cast_ofNat_Int]
      gi_wp2
      refine wpIn_region_grow_tail 7 (by kernel_rfl) (by kernel_rfl) (by kernel_rfl) ?_
      simp only [List.take_succ_cons, List.take_zero, List.drop_succ_cons, List.drop_zero]
      iterate 7 (gi_big_quiet_step ((gi_at_call 115; (with_reducible exact t1.out _))))
      refine wpQuietIn_nil ?_
      intro _ hw'
      obtain ⟨V', hw''⟩ := hw'
      subst hw''
      have hbV := Lib.hid (show Below wr.heap.size wr V'.v from hbw'.out.trans (V'.below.mono hbw'.out.size))
      have hj5 := Lib.hid (hJ'.out _ w4 V'.v none hj4'.out (grown_below V'.below) (fun r e => by cases e))
      obtain ⟨fn, tmps, assign, body, hy, hR⟩ := hY'.out _ 1 V'.v hj5.out (by rw [List.length_range]; omega)
      have hy' : (Instr.yield l #[.int .i64 400, .bool (g 1)]).run Tryz.prog V'.v = .ok (Next.round l fn tmps assign body) V'.v := hy
      have hR' := Lib.hid hR
      clear hy hR
      gi_wp2
      refine hR'.out.mono ?_
      rintro e V3 ⟨hkf, (⟨rfl, hJ3, hK3⟩ | ⟨rfl, hJx3⟩)⟩
      · have hJ3' := Lib.hid (show J (List.range (1 + 1)) V3 from by rw [← range_snocR]; exact hJ3)
        have hs3 := Lib.hid (show ∀ i, i < B → V3.heap[i]? = w0.heap[i]? from fun i hi => (hK3.old i hi).trans ((hbV.out.block i (by have := hz'.out; omega)).trans (hs'.out i hi)))
        have hp3 := Lib.hid (hK3.kept bp _ _ (hp'.out.below hbV.out hp'.out.lt) hbp)
        have hz3 := Lib.hid (show W.heap.size ≤ V3.heap.size by have := hK3.size; have := hbV.out.size; have := hz'.out; omega)
        clear hJ3 hK3 hkf
        gi_wp2
        exact ⟨⟨1 + 1, by omega, rfl, hJ3'.out, hs3.out, hp3.out, hz3.out⟩, by simp [intOf]⟩
      · have hJx3' := Lib.hid hJx3
        clear hJx3 hkf
        gi_wp2
        refine bodyPost_ret (results_none rfl _ _ _) rfl ?_
        exact ⟨⟨_, rfl⟩, .inr ⟨_, ⟨1, by omega, range_snocR 1⟩, hJx3'.out⟩⟩
    · have hnw := Has.new wr 129 #[.int .i64 400, .func (.func 116) #[] #[]]
      have hbw := (Below.refl wr.heap.size wr).alloc (Nat.le_refl _) (.cells #[.int .i64 400, .func (.func 116) #[] #[]] 129)
      have hj4 := hJ'.out _ wr _ none hJk'.out (grown_below hbw) (fun r e => by cases e)
      obtain ⟨w4, hw4⟩ : ∃ w4, wr.alloc (.cells #[.int .i64 400, .func (.func 116) #[] #[]] 129) = w4 := ⟨_, rfl⟩
      rw [hw4] at hnw hbw hj4
      have hp4 := hp'.out.below hbw hp'.out.lt
      have x0 := fun (V' : Grown w4) => (hnw.below V'.below hnw.lt).cell 0
      have x1 := fun (V' : Grown w4) => (hnw.below V'.below hnw.lt).cell 1
      have x2 := fun (V' : Grown w4) => (hp4.below V'.below hp4.lt).cell 0
      have t1 := Lib.hid (fun (V' : Grown w4) => callsIn_wide (n := 5 - 1).2 (grow_call V' (show Calls Tryz.prog 116 #[.pointer (some ⟨b, 0, none⟩)] V'.v fun e w' => e = .returned (.bool (g 2)) ∧ Below V'.v.heap.size V'.v w' from by rw [← hg'.out]; exact ask2 b L V'.v (hLV'.out _ (hbw.trans (V'.below.mono hbw.size))) hF)))
      have hbw' := Lib.hid hbw
      have hj4' := Lib.hid hj4
      clear hnw hbw hj4 hp4
      have hix : ∀ W, (Instr.index 130 (.agg #[.int .i64 400, .func (.func 114) #[] #[], .int .i64 400, .func (.func 115) #[] #[], .int .i64 400, .func (.func 116) #[] #[], .int .i64 400, .func (.func 117) #[] #[], .int .i64 400, .func (.func 118) #[] #[], .int .i64 505, .func (.func 119) #[] #[], .int .i64 405, .func (.func 120) #[] #[], .int .i64 406, .func (.func 121) #[] #[], .int .i64 200, .func (.func 122) #[] #[]]) (.int .i64 2)).run Tryz.prog W = .ok (.agg #[.int .i64 400, .func (.func 116) #[] #[]]) W := fun _ => by kernel_rfl
      simp only [Int.cast_ofNat_Int]
      gi_wp2
      refine wpIn_region_grow_tail 7 (by kernel_rfl) (by kernel_rfl) (by kernel_rfl) ?_
      simp only [List.take_succ_cons, List.take_zero, List.drop_succ_cons, List.drop_zero]
      iterate 7 (gi_big_quiet_step ((gi_at_call 116; (with_reducible exact t1.out _))))
      refine wpQuietIn_nil ?_
      intro _ hw'
      obtain ⟨V', hw''⟩ := hw'
      subst hw''
      have hbV := Lib.hid (show Below wr.heap.size wr V'.v from hbw'.out.trans (V'.below.mono hbw'.out.size))
      have hj5 := Lib.hid (hJ'.out _ w4 V'.v none hj4'.out (grown_below V'.below) (fun r e => by cases e))
      obtain ⟨fn, tmps, assign, body, hy, hR⟩ := hY'.out _ 2 V'.v hj5.out (by rw [List.length_range]; omega)
      have hy' : (Instr.yield l #[.int .i64 400, .bool (g 2)]).run Tryz.prog V'.v = .ok (Next.round l fn tmps assign body) V'.v := hy
      have hR' := Lib.hid hR
      clear hy hR
      gi_wp2
      refine hR'.out.mono ?_
      rintro e V3 ⟨hkf, (⟨rfl, hJ3, hK3⟩ | ⟨rfl, hJx3⟩)⟩
      · have hJ3' := Lib.hid (show J (List.range (2 + 1)) V3 from by rw [← range_snocR]; exact hJ3)
        have hs3 := Lib.hid (show ∀ i, i < B → V3.heap[i]? = w0.heap[i]? from fun i hi => (hK3.old i hi).trans ((hbV.out.block i (by have := hz'.out; omega)).trans (hs'.out i hi)))
        have hp3 := Lib.hid (hK3.kept bp _ _ (hp'.out.below hbV.out hp'.out.lt) hbp)
        have hz3 := Lib.hid (show W.heap.size ≤ V3.heap.size by have := hK3.size; have := hbV.out.size; have := hz'.out; omega)
        clear hJ3 hK3 hkf
        gi_wp2
        exact ⟨⟨2 + 1, by omega, rfl, hJ3'.out, hs3.out, hp3.out, hz3.out⟩, by simp [intOf]⟩
      · have hJx3' := Lib.hid hJx3
        clear hJx3 hkf
        gi_wp2
        refine bodyPost_ret (results_none rfl _ _ _) rfl ?_
        exact ⟨⟨_, rfl⟩, .inr ⟨_, ⟨2, by omega, range_snocR 2⟩, hJx3'.out⟩⟩
    · have hnw := Has.new wr 129 #[.int .i64 400, .func (.func 117) #[] #[]]
      have hbw := (Below.refl wr.heap.size wr).alloc (Nat.le_refl _) (.cells #[.int .i64 400, .func (.func 117) #[] #[]] 129)
      have hj4 := hJ'.out _ wr _ none hJk'.out (grown_below hbw) (fun r e => by cases e)
      obtain ⟨w4, hw4⟩ : ∃ w4, wr.alloc (.cells #[.int .i64 400, .func (.func 117) #[] #[]] 129) = w4 := ⟨_, rfl⟩
      rw [hw4] at hnw hbw hj4
      have hp4 := hp'.out.below hbw hp'.out.lt
      have x0 := fun (V' : Grown w4) => (hnw.below V'.below hnw.lt).cell 0
      have x1 := fun (V' : Grown w4) => (hnw.below V'.below hnw.lt).cell 1
      have x2 := fun (V' : Grown w4) => (hp4.below V'.below hp4.lt).cell 0
      have t1 := Lib.hid (fun (V' : Grown w4) => callsIn_wide (n := 5 - 1).2 (grow_call V' (show Calls Tryz.prog 117 #[.pointer (some ⟨b, 0, none⟩)] V'.v fun e w' => e = .returned (.bool (g 3)) ∧ Below V'.v.heap.size V'.v w' from by rw [← hg'.out]; exact ask3 b L V'.v (hLV'.out _ (hbw.trans (V'.below.mono hbw.size))) hF)))
      have hbw' := Lib.hid hbw
      have hj4' := Lib.hid hj4
      clear hnw hbw hj4 hp4
      have hix : ∀ W, (Instr.index 130 (.agg #[.int .i64 400, .func (.func 114) #[] #[], .int .i64 400, .func (.func 115) #[] #[], .int .i64 400, .func (.func 116) #[] #[], .int .i64 400, .func (.func 117) #[] #[], .int .i64 400, .func (.func 118) #[] #[], .int .i64 505, .func (.func 119) #[] #[], .int .i64 405, .func (.func 120) #[] #[], .int .i64 406, .func (.func 121) #[] #[], .int .i64 200, .func (.func 122) #[] #[]]) (.int .i64 3)).run Tryz.prog W = .ok (.agg #[.int .i64 400, .func (.func 117) #[] #[]]) W := fun _ => by kernel_rfl
      simp only [Int.cast_ofNat_Int]
      gi_wp2
      refine wpIn_region_grow_tail 7 (by kernel_rfl) (by kernel_rfl) (by kernel_rfl) ?_
      simp only [List.take_succ_cons, List.take_zero, List.drop_succ_cons, List.drop_zero]
      iterate 7 (gi_big_quiet_step ((gi_at_call 117; (with_reducible exact t1.out _))))
      refine wpQuietIn_nil ?_
      intro _ hw'
      obtain ⟨V', hw''⟩ := hw'
      subst hw''
      have hbV := Lib.hid (show Below wr.heap.size wr V'.v from hbw'.out.trans (V'.below.mono hbw'.out.size))
      have hj5 := Lib.hid (hJ'.out _ w4 V'.v none hj4'.out (grown_below V'.below) (fun r e => by cases e))
      obtain ⟨fn, tmps, assign, body, hy, hR⟩ := hY'.out _ 3 V'.v hj5.out (by rw [List.length_range]; omega)
      have hy' : (Instr.yield l #[.int .i64 400, .bool (g 3)]).run Tryz.prog V'.v = .ok (Next.round l fn tmps assign body) V'.v := hy
      have hR' := Lib.hid hR
      clear hy hR
      gi_wp2
      refine hR'.out.mono ?_
      rintro e V3 ⟨hkf, (⟨rfl, hJ3, hK3⟩ | ⟨rfl, hJx3⟩)⟩
      · have hJ3' := Lib.hid (show J (List.range (3 + 1)) V3 from by rw [← range_snocR]; exact hJ3)
        have hs3 := Lib.hid (show ∀ i, i < B → V3.heap[i]? = w0.heap[i]? from fun i hi => (hK3.old i hi).trans ((hbV.out.block i (by have := hz'.out; omega)).trans (hs'.out i hi)))
        have hp3 := Lib.hid (hK3.kept bp _ _ (hp'.out.below hbV.out hp'.out.lt) hbp)
        have hz3 := Lib.hid (show W.heap.size ≤ V3.heap.size by have := hK3.size; have := hbV.out.size; have := hz'.out; omega)
        clear hJ3 hK3 hkf
        gi_wp2
        exact ⟨⟨3 + 1, by omega, rfl, hJ3'.out, hs3.out, hp3.out, hz3.out⟩, by simp [intOf]⟩
      · have hJx3' := Lib.hid hJx3
        clear hJx3 hkf
        gi_wp2
        refine bodyPost_ret (results_none rfl _ _ _) rfl ?_
        exact ⟨⟨_, rfl⟩, .inr ⟨_, ⟨3, by omega, range_snocR 3⟩, hJx3'.out⟩⟩
    · have hnw := Has.new wr 129 #[.int .i64 400, .func (.func 118) #[] #[]]
      have hbw := (Below.refl wr.heap.size wr).alloc (Nat.le_refl _) (.cells #[.int .i64 400, .func (.func 118) #[] #[]] 129)
      have hj4 := hJ'.out _ wr _ none hJk'.out (grown_below hbw) (fun r e => by cases e)
      obtain ⟨w4, hw4⟩ : ∃ w4, wr.alloc (.cells #[.int .i64 400, .func (.func 118) #[] #[]] 129) = w4 := ⟨_, rfl⟩
      rw [hw4] at hnw hbw hj4
      have hp4 := hp'.out.below hbw hp'.out.lt
      have x0 := fun (V' : Grown w4) => (hnw.below V'.below hnw.lt).cell 0
      have x1 := fun (V' : Grown w4) => (hnw.below V'.below hnw.lt).cell 1
      have x2 := fun (V' : Grown w4) => (hp4.below V'.below hp4.lt).cell 0
      have t1 := Lib.hid (fun (V' : Grown w4) => callsIn_wide (n := 5 - 1).2 (grow_call V' (show Calls Tryz.prog 118 #[.pointer (some ⟨b, 0, none⟩)] V'.v fun e w' => e = .returned (.bool (g 4)) ∧ Below V'.v.heap.size V'.v w' from by rw [← hg'.out]; exact ask4 b L V'.v (hLV'.out _ (hbw.trans (V'.below.mono hbw.size))) hF)))
      have hbw' := Lib.hid hbw
      have hj4' := Lib.hid hj4
      clear hnw hbw hj4 hp4
      have hix : ∀ W, (Instr.index 130 (.agg #[.int .i64 400, .func (.func 114) #[] #[], .int .i64 400, .func (.func 115) #[] #[], .int .i64 400, .func (.func 116) #[] #[], .int .i64 400, .func (.func 117) #[] #[], .int .i64 400, .func (.func 118) #[] #[], .int .i64 505, .func (.func 119) #[] #[], .int .i64 405, .func (.func 120) #[] #[], .int .i64 406, .func (.func 121) #[] #[], .int .i64 200, .func (.func 122) #[] #[]]) (.int .i64 4)).run Tryz.prog W = .ok (.agg #[.int .i64 400, .func (.func 118) #[] #[]]) W := fun _ => by kernel_rfl
      simp only [Int.cast_ofNat_Int]
      gi_wp2
      refine wpIn_region_grow_tail 7 (by kernel_rfl) (by kernel_rfl) (by kernel_rfl) ?_
      simp only [List.take_succ_cons, List.take_zero, List.drop_succ_cons, List.drop_zero]
      iterate 7 (gi_big_quiet_step ((gi_at_call 118; (with_reducible exact t1.out _))))
      refine wpQuietIn_nil ?_
      intro _ hw'
      obtain ⟨V', hw''⟩ := hw'
      subst hw''
      have hbV := Lib.hid (show Below wr.heap.size wr V'.v from hbw'.out.trans (V'.below.mono hbw'.out.size))
      have hj5 := Lib.hid (hJ'.out _ w4 V'.v none hj4'.out (grown_below V'.below) (fun r e => by cases e))
      obtain ⟨fn, tmps, assign, body, hy, hR⟩ := hY'.out _ 4 V'.v hj5.out (by rw [List.length_range]; omega)
      have hy' : (Instr.yield l #[.int .i64 400, .bool (g 4)]).run Tryz.prog V'.v = .ok (Next.round l fn tmps assign body) V'.v := hy
      have hR' := Lib.hid hR
      clear hy hR
      gi_wp2
      refine hR'.out.mono ?_
      rintro e V3 ⟨hkf, (⟨rfl, hJ3, hK3⟩ | ⟨rfl, hJx3⟩)⟩
      · have hJ3' := Lib.hid (show J (List.range (4 + 1)) V3 from by rw [← range_snocR]; exact hJ3)
        have hs3 := Lib.hid (show ∀ i, i < B → V3.heap[i]? = w0.heap[i]? from fun i hi => (hK3.old i hi).trans ((hbV.out.block i (by have := hz'.out; omega)).trans (hs'.out i hi)))
        have hp3 := Lib.hid (hK3.kept bp _ _ (hp'.out.below hbV.out hp'.out.lt) hbp)
        have hz3 := Lib.hid (show W.heap.size ≤ V3.heap.size by have := hK3.size; have := hbV.out.size; have := hz'.out; omega)
        clear hJ3 hK3 hkf
        gi_wp2
        exact ⟨⟨4 + 1, by omega, rfl, hJ3'.out, hs3.out, hp3.out, hz3.out⟩, by simp [intOf]⟩
      · have hJx3' := Lib.hid hJx3
        clear hJx3 hkf
        gi_wp2
        refine bodyPost_ret (results_none rfl _ _ _) rfl ?_
        exact ⟨⟨_, rfl⟩, .inr ⟨_, ⟨4, by omega, range_snocR 4⟩, hJx3'.out⟩⟩
    · have hnw := Has.new wr 129 #[.int .i64 505, .func (.func 119) #[] #[]]
      have hbw := (Below.refl wr.heap.size wr).alloc (Nat.le_refl _) (.cells #[.int .i64 505, .func (.func 119) #[] #[]] 129)
      have hj4 := hJ'.out _ wr _ none hJk'.out (grown_below hbw) (fun r e => by cases e)
      obtain ⟨w4, hw4⟩ : ∃ w4, wr.alloc (.cells #[.int .i64 505, .func (.func 119) #[] #[]] 129) = w4 := ⟨_, rfl⟩
      rw [hw4] at hnw hbw hj4
      have hp4 := hp'.out.below hbw hp'.out.lt
      have x0 := fun (V' : Grown w4) => (hnw.below V'.below hnw.lt).cell 0
      have x1 := fun (V' : Grown w4) => (hnw.below V'.below hnw.lt).cell 1
      have x2 := fun (V' : Grown w4) => (hp4.below V'.below hp4.lt).cell 0
      have t1 := Lib.hid (fun (V' : Grown w4) => callsIn_wide (n := 5 - 1).2 (grow_call V' (show Calls Tryz.prog 119 #[.pointer (some ⟨b, 0, none⟩)] V'.v fun e w' => e = .returned (.bool (g 5)) ∧ Below V'.v.heap.size V'.v w' from by rw [← hg'.out]; exact ask5 b L V'.v (hLV'.out _ (hbw.trans (V'.below.mono hbw.size))))))
      have hbw' := Lib.hid hbw
      have hj4' := Lib.hid hj4
      clear hnw hbw hj4 hp4
      have hix : ∀ W, (Instr.index 130 (.agg #[.int .i64 400, .func (.func 114) #[] #[], .int .i64 400, .func (.func 115) #[] #[], .int .i64 400, .func (.func 116) #[] #[], .int .i64 400, .func (.func 117) #[] #[], .int .i64 400, .func (.func 118) #[] #[], .int .i64 505, .func (.func 119) #[] #[], .int .i64 405, .func (.func 120) #[] #[], .int .i64 406, .func (.func 121) #[] #[], .int .i64 200, .func (.func 122) #[] #[]]) (.int .i64 5)).run Tryz.prog W = .ok (.agg #[.int .i64 505, .func (.func 119) #[] #[]]) W := fun _ => by kernel_rfl
      simp only [Int.cast_ofNat_Int]
      gi_wp2
      refine wpIn_region_grow_tail 7 (by kernel_rfl) (by kernel_rfl) (by kernel_rfl) ?_
      simp only [List.take_succ_cons, List.take_zero, List.drop_succ_cons, List.drop_zero]
      iterate 7 (gi_big_quiet_step ((gi_at_call 119; (with_reducible exact t1.out _))))
      refine wpQuietIn_nil ?_
      intro _ hw'
      obtain ⟨V', hw''⟩ := hw'
      subst hw''
      have hbV := Lib.hid (show Below wr.heap.size wr V'.v from hbw'.out.trans (V'.below.mono hbw'.out.size))
      have hj5 := Lib.hid (hJ'.out _ w4 V'.v none hj4'.out (grown_below V'.below) (fun r e => by cases e))
      obtain ⟨fn, tmps, assign, body, hy, hR⟩ := hY'.out _ 5 V'.v hj5.out (by rw [List.length_range]; omega)
      have hy' : (Instr.yield l #[.int .i64 505, .bool (g 5)]).run Tryz.prog V'.v = .ok (Next.round l fn tmps assign body) V'.v := hy
      have hR' := Lib.hid hR
      clear hy hR
      gi_wp2
      refine hR'.out.mono ?_
      rintro e V3 ⟨hkf, (⟨rfl, hJ3, hK3⟩ | ⟨rfl, hJx3⟩)⟩
      · have hJ3' := Lib.hid (show J (List.range (5 + 1)) V3 from by rw [← range_snocR]; exact hJ3)
        have hs3 := Lib.hid (show ∀ i, i < B → V3.heap[i]? = w0.heap[i]? from fun i hi => (hK3.old i hi).trans ((hbV.out.block i (by have := hz'.out; omega)).trans (hs'.out i hi)))
        have hp3 := Lib.hid (hK3.kept bp _ _ (hp'.out.below hbV.out hp'.out.lt) hbp)
        have hz3 := Lib.hid (show W.heap.size ≤ V3.heap.size by have := hK3.size; have := hbV.out.size; have := hz'.out; omega)
        clear hJ3 hK3 hkf
        gi_wp2
        exact ⟨⟨5 + 1, by omega, rfl, hJ3'.out, hs3.out, hp3.out, hz3.out⟩, by simp [intOf]⟩
      · have hJx3' := Lib.hid hJx3
        clear hJx3 hkf
        gi_wp2
        refine bodyPost_ret (results_none rfl _ _ _) rfl ?_
        exact ⟨⟨_, rfl⟩, .inr ⟨_, ⟨5, by omega, range_snocR 5⟩, hJx3'.out⟩⟩
    · have hnw := Has.new wr 129 #[.int .i64 405, .func (.func 120) #[] #[]]
      have hbw := (Below.refl wr.heap.size wr).alloc (Nat.le_refl _) (.cells #[.int .i64 405, .func (.func 120) #[] #[]] 129)
      have hj4 := hJ'.out _ wr _ none hJk'.out (grown_below hbw) (fun r e => by cases e)
      obtain ⟨w4, hw4⟩ : ∃ w4, wr.alloc (.cells #[.int .i64 405, .func (.func 120) #[] #[]] 129) = w4 := ⟨_, rfl⟩
      rw [hw4] at hnw hbw hj4
      have hp4 := hp'.out.below hbw hp'.out.lt
      have x0 := fun (V' : Grown w4) => (hnw.below V'.below hnw.lt).cell 0
      have x1 := fun (V' : Grown w4) => (hnw.below V'.below hnw.lt).cell 1
      have x2 := fun (V' : Grown w4) => (hp4.below V'.below hp4.lt).cell 0
      have t1 := Lib.hid (fun (V' : Grown w4) => callsIn_wide (n := 5 - 1).2 (grow_call V' (show Calls Tryz.prog 120 #[.pointer (some ⟨b, 0, none⟩)] V'.v fun e w' => e = .returned (.bool (g 6)) ∧ Below V'.v.heap.size V'.v w' from by rw [← hg'.out]; exact ask6 b L V'.v (hLV'.out _ (hbw.trans (V'.below.mono hbw.size))))))
      have hbw' := Lib.hid hbw
      have hj4' := Lib.hid hj4
      clear hnw hbw hj4 hp4
      have hix : ∀ W, (Instr.index 130 (.agg #[.int .i64 400, .func (.func 114) #[] #[], .int .i64 400, .func (.func 115) #[] #[], .int .i64 400, .func (.func 116) #[] #[], .int .i64 400, .func (.func 117) #[] #[], .int .i64 400, .func (.func 118) #[] #[], .int .i64 505, .func (.func 119) #[] #[], .int .i64 405, .func (.func 120) #[] #[], .int .i64 406, .func (.func 121) #[] #[], .int .i64 200, .func (.func 122) #[] #[]]) (.int .i64 6)).run Tryz.prog W = .ok (.agg #[.int .i64 405, .func (.func 120) #[] #[]]) W := fun _ => by kernel_rfl
      simp only [Int.cast_ofNat_Int]
      gi_wp2
      refine wpIn_region_grow_tail 7 (by kernel_rfl) (by kernel_rfl) (by kernel_rfl) ?_
      simp only [List.take_succ_cons, List.take_zero, List.drop_succ_cons, List.drop_zero]
      iterate 7 (gi_big_quiet_step ((gi_at_call 120; (with_reducible exact t1.out _))))
      refine wpQuietIn_nil ?_
      intro _ hw'
      obtain ⟨V', hw''⟩ := hw'
      subst hw''
      have hbV := Lib.hid (show Below wr.heap.size wr V'.v from hbw'.out.trans (V'.below.mono hbw'.out.size))
      have hj5 := Lib.hid (hJ'.out _ w4 V'.v none hj4'.out (grown_below V'.below) (fun r e => by cases e))
      obtain ⟨fn, tmps, assign, body, hy, hR⟩ := hY'.out _ 6 V'.v hj5.out (by rw [List.length_range]; omega)
      have hy' : (Instr.yield l #[.int .i64 405, .bool (g 6)]).run Tryz.prog V'.v = .ok (Next.round l fn tmps assign body) V'.v := hy
      have hR' := Lib.hid hR
      clear hy hR
      gi_wp2
      refine hR'.out.mono ?_
      rintro e V3 ⟨hkf, (⟨rfl, hJ3, hK3⟩ | ⟨rfl, hJx3⟩)⟩
      · have hJ3' := Lib.hid (show J (List.range (6 + 1)) V3 from by rw [← range_snocR]; exact hJ3)
        have hs3 := Lib.hid (show ∀ i, i < B → V3.heap[i]? = w0.heap[i]? from fun i hi => (hK3.old i hi).trans ((hbV.out.block i (by have := hz'.out; omega)).trans (hs'.out i hi)))
        have hp3 := Lib.hid (hK3.kept bp _ _ (hp'.out.below hbV.out hp'.out.lt) hbp)
        have hz3 := Lib.hid (show W.heap.size ≤ V3.heap.size by have := hK3.size; have := hbV.out.size; have := hz'.out; omega)
        clear hJ3 hK3 hkf
        gi_wp2
        exact ⟨⟨6 + 1, by omega, rfl, hJ3'.out, hs3.out, hp3.out, hz3.out⟩, by simp [intOf]⟩
      · have hJx3' := Lib.hid hJx3
        clear hJx3 hkf
        gi_wp2
        refine bodyPost_ret (results_none rfl _ _ _) rfl ?_
        exact ⟨⟨_, rfl⟩, .inr ⟨_, ⟨6, by omega, range_snocR 6⟩, hJx3'.out⟩⟩
    · have hnw := Has.new wr 129 #[.int .i64 406, .func (.func 121) #[] #[]]
      have hbw := (Below.refl wr.heap.size wr).alloc (Nat.le_refl _) (.cells #[.int .i64 406, .func (.func 121) #[] #[]] 129)
      have hj4 := hJ'.out _ wr _ none hJk'.out (grown_below hbw) (fun r e => by cases e)
      obtain ⟨w4, hw4⟩ : ∃ w4, wr.alloc (.cells #[.int .i64 406, .func (.func 121) #[] #[]] 129) = w4 := ⟨_, rfl⟩
      rw [hw4] at hnw hbw hj4
      have hp4 := hp'.out.below hbw hp'.out.lt
      have x0 := fun (V' : Grown w4) => (hnw.below V'.below hnw.lt).cell 0
      have x1 := fun (V' : Grown w4) => (hnw.below V'.below hnw.lt).cell 1
      have x2 := fun (V' : Grown w4) => (hp4.below V'.below hp4.lt).cell 0
      have t1 := Lib.hid (fun (V' : Grown w4) => callsIn_wide (n := 5 - 1).2 (grow_call V' (show Calls Tryz.prog 121 #[.pointer (some ⟨b, 0, none⟩)] V'.v fun e w' => e = .returned (.bool (g 7)) ∧ Below V'.v.heap.size V'.v w' from by rw [← hg'.out]; exact ask7 b L V'.v (hLV'.out _ (hbw.trans (V'.below.mono hbw.size))) hF (hTV'.out _ (hbw.trans (V'.below.mono hbw.size))))))
      have hbw' := Lib.hid hbw
      have hj4' := Lib.hid hj4
      clear hnw hbw hj4 hp4
      have hix : ∀ W, (Instr.index 130 (.agg #[.int .i64 400, .func (.func 114) #[] #[], .int .i64 400, .func (.func 115) #[] #[], .int .i64 400, .func (.func 116) #[] #[], .int .i64 400, .func (.func 117) #[] #[], .int .i64 400, .func (.func 118) #[] #[], .int .i64 505, .func (.func 119) #[] #[], .int .i64 405, .func (.func 120) #[] #[], .int .i64 406, .func (.func 121) #[] #[], .int .i64 200, .func (.func 122) #[] #[]]) (.int .i64 7)).run Tryz.prog W = .ok (.agg #[.int .i64 406, .func (.func 121) #[] #[]]) W := fun _ => by kernel_rfl
      simp only [Int.cast_ofNat_Int]
      gi_wp2
      refine wpIn_region_grow_tail 7 (by kernel_rfl) (by kernel_rfl) (by kernel_rfl) ?_
      simp only [List.take_succ_cons, List.take_zero, List.drop_succ_cons, List.drop_zero]
      iterate 7 (gi_big_quiet_step ((gi_at_call 121; (with_reducible exact t1.out _))))
      refine wpQuietIn_nil ?_
      intro _ hw'
      obtain ⟨V', hw''⟩ := hw'
      subst hw''
      have hbV := Lib.hid (show Below wr.heap.size wr V'.v from hbw'.out.trans (V'.below.mono hbw'.out.size))
      have hj5 := Lib.hid (hJ'.out _ w4 V'.v none hj4'.out (grown_below V'.below) (fun r e => by cases e))
      obtain ⟨fn, tmps, assign, body, hy, hR⟩ := hY'.out _ 7 V'.v hj5.out (by rw [List.length_range]; omega)
      have hy' : (Instr.yield l #[.int .i64 406, .bool (g 7)]).run Tryz.prog V'.v = .ok (Next.round l fn tmps assign body) V'.v := hy
      have hR' := Lib.hid hR
      clear hy hR
      gi_wp2
      refine hR'.out.mono ?_
      rintro e V3 ⟨hkf, (⟨rfl, hJ3, hK3⟩ | ⟨rfl, hJx3⟩)⟩
      · have hJ3' := Lib.hid (show J (List.range (7 + 1)) V3 from by rw [← range_snocR]; exact hJ3)
        have hs3 := Lib.hid (show ∀ i, i < B → V3.heap[i]? = w0.heap[i]? from fun i hi => (hK3.old i hi).trans ((hbV.out.block i (by have := hz'.out; omega)).trans (hs'.out i hi)))
        have hp3 := Lib.hid (hK3.kept bp _ _ (hp'.out.below hbV.out hp'.out.lt) hbp)
        have hz3 := Lib.hid (show W.heap.size ≤ V3.heap.size by have := hK3.size; have := hbV.out.size; have := hz'.out; omega)
        clear hJ3 hK3 hkf
        gi_wp2
        exact ⟨⟨7 + 1, by omega, rfl, hJ3'.out, hs3.out, hp3.out, hz3.out⟩, by simp [intOf]⟩
      · have hJx3' := Lib.hid hJx3
        clear hJx3 hkf
        gi_wp2
        refine bodyPost_ret (results_none rfl _ _ _) rfl ?_
        exact ⟨⟨_, rfl⟩, .inr ⟨_, ⟨7, by omega, range_snocR 7⟩, hJx3'.out⟩⟩
    · have hnw := Has.new wr 129 #[.int .i64 200, .func (.func 122) #[] #[]]
      have hbw := (Below.refl wr.heap.size wr).alloc (Nat.le_refl _) (.cells #[.int .i64 200, .func (.func 122) #[] #[]] 129)
      have hj4 := hJ'.out _ wr _ none hJk'.out (grown_below hbw) (fun r e => by cases e)
      obtain ⟨w4, hw4⟩ : ∃ w4, wr.alloc (.cells #[.int .i64 200, .func (.func 122) #[] #[]] 129) = w4 := ⟨_, rfl⟩
      rw [hw4] at hnw hbw hj4
      have hp4 := hp'.out.below hbw hp'.out.lt
      have x0 := fun (V' : Grown w4) => (hnw.below V'.below hnw.lt).cell 0
      have x1 := fun (V' : Grown w4) => (hnw.below V'.below hnw.lt).cell 1
      have x2 := fun (V' : Grown w4) => (hp4.below V'.below hp4.lt).cell 0
      have t1 := Lib.hid (fun (V' : Grown w4) => callsIn_wide (n := 5 - 1).2 (grow_call V' (show Calls Tryz.prog 122 #[.pointer (some ⟨b, 0, none⟩)] V'.v fun e w' => e = .returned (.bool (g 8)) ∧ Below V'.v.heap.size V'.v w' from by rw [← hg'.out]; exact ask8 b L V'.v )))
      have hbw' := Lib.hid hbw
      have hj4' := Lib.hid hj4
      clear hnw hbw hj4 hp4
      have hix : ∀ W, (Instr.index 130 (.agg #[.int .i64 400, .func (.func 114) #[] #[], .int .i64 400, .func (.func 115) #[] #[], .int .i64 400, .func (.func 116) #[] #[], .int .i64 400, .func (.func 117) #[] #[], .int .i64 400, .func (.func 118) #[] #[], .int .i64 505, .func (.func 119) #[] #[], .int .i64 405, .func (.func 120) #[] #[], .int .i64 406, .func (.func 121) #[] #[], .int .i64 200, .func (.func 122) #[] #[]]) (.int .i64 8)).run Tryz.prog W = .ok (.agg #[.int .i64 200, .func (.func 122) #[] #[]]) W := fun _ => by kernel_rfl
      simp only [Int.cast_ofNat_Int]
      gi_wp2
      refine wpIn_region_grow_tail 7 (by kernel_rfl) (by kernel_rfl) (by kernel_rfl) ?_
      simp only [List.take_succ_cons, List.take_zero, List.drop_succ_cons, List.drop_zero]
      iterate 7 (gi_big_quiet_step ((gi_at_call 122; (with_reducible exact t1.out _))))
      refine wpQuietIn_nil ?_
      intro _ hw'
      obtain ⟨V', hw''⟩ := hw'
      subst hw''
      have hbV := Lib.hid (show Below wr.heap.size wr V'.v from hbw'.out.trans (V'.below.mono hbw'.out.size))
      have hj5 := Lib.hid (hJ'.out _ w4 V'.v none hj4'.out (grown_below V'.below) (fun r e => by cases e))
      obtain ⟨fn, tmps, assign, body, hy, hR⟩ := hY'.out _ 8 V'.v hj5.out (by rw [List.length_range]; omega)
      have hy' : (Instr.yield l #[.int .i64 200, .bool (g 8)]).run Tryz.prog V'.v = .ok (Next.round l fn tmps assign body) V'.v := hy
      have hR' := Lib.hid hR
      clear hy hR
      gi_wp2
      refine hR'.out.mono ?_
      rintro e V3 ⟨hkf, (⟨rfl, hJ3, hK3⟩ | ⟨rfl, hJx3⟩)⟩
      · have hJ3' := Lib.hid (show J (List.range (8 + 1)) V3 from by rw [← range_snocR]; exact hJ3)
        have hs3 := Lib.hid (show ∀ i, i < B → V3.heap[i]? = w0.heap[i]? from fun i hi => (hK3.old i hi).trans ((hbV.out.block i (by have := hz'.out; omega)).trans (hs'.out i hi)))
        have hp3 := Lib.hid (hK3.kept bp _ _ (hp'.out.below hbV.out hp'.out.lt) hbp)
        have hz3 := Lib.hid (show W.heap.size ≤ V3.heap.size by have := hK3.size; have := hbV.out.size; have := hz'.out; omega)
        clear hJ3 hK3 hkf
        gi_wp2
        exact ⟨⟨8 + 1, by omega, rfl, hJ3'.out, hs3.out, hp3.out, hz3.out⟩, by simp [intOf]⟩
      · have hJx3' := Lib.hid hJx3
        clear hJx3 hkf
        gi_wp2
        refine bodyPost_ret (results_none rfl _ _ _) rfl ?_
        exact ⟨⟨_, rfl⟩, .inr ⟨_, ⟨8, by omega, range_snocR 8⟩, hJx3'.out⟩⟩
    · gi_wp2
      go_end0
      exact ⟨⟨_, rfl⟩, .inl ⟨_, rfl, hJk'.out⟩⟩
end Go.Proofs.YtbmemkbfignlaaaGreatDoor
