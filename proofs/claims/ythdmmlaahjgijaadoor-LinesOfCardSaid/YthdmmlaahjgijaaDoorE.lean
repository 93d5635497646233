import Derived.Test.YthdmmlaahjgijaaDoorD
import Derived.Test.YthdmmlaahjgijaaDoorR
import Derived.RangeFuncNested
import Derived.RangeFuncBox
import Derived.RangeFuncBound
import Derived.RangeFuncCalls
import Derived.OwnWalkIn
import Derived.TacticsInMore
import Derived.LoopNIn
import Derived.LoopIn
import Derived.Stop.RegionWithIn
namespace Go.Proofs.YthdmmlaahjgijaaDoor
open Go.RowKit
attribute [local go_sem] Oper.semAt_some
theorem wide_fn (f : FuncId) : Fence.wide.fn f = True := rfl
theorem wide_depth : Fence.wide.depth.isSome = false := rfl
theorem wide_round (l : Nat) (f : FuncId) : (Fence.wide.inRound l).fn f = True := rfl
attribute [local go_sem] wide_fn wide_depth wide_round

/-! ## What stands in a text, one by one -/
/-- A block of cells lies as it lay, but for those of which S holds, and rows of bytes from n0 on. -/
structure KeepC (n0 : Nat) (S : Nat → Prop) (W W' : World) : Prop where
  size : W.heap.size ≤ W'.heap.size
  kept : ∀ k t cs, Has W k t cs → (k < n0 ∨ t ≠ 5) → ¬ S k → Has W' k t cs
section
variable {n0 : Nat} {S : Nat → Prop} {A B C : World}
theorem KeepC.refl (n0 : Nat) (S : Nat → Prop) (W : World) : KeepC n0 S W W := ⟨Nat.le_refl _, fun _ _ _ h _ _ => h⟩
theorem KeepC.trans (h : KeepC n0 S A B) (k : KeepC n0 S B C) : KeepC n0 S A C := ⟨Nat.le_trans h.size k.size, fun j t cs h1 h2 h3 => k.kept j t cs (h.kept j t cs h1 h2 h3) h2 h3⟩
theorem KeepC.below (h : Below A.heap.size A B) : KeepC n0 S A B := ⟨h.size, fun _ _ _ h1 _ _ => h1.below h h1.lt⟩
theorem KeepC.alloc (h : KeepC n0 S A B) (o : Obj) : KeepC n0 S A (B.alloc o) := h.trans (.below ((Below.refl _ _).alloc (Nat.le_refl _) _))
theorem KeepC.drewN (h : KeepC n0 S A B) (q : Nat) : KeepC n0 S A (B.drewN q) := ⟨h.size, h.kept⟩
theorem KeepC.setCell (h : KeepC n0 S A B) {p : Addr} (hp : S p.block) (u : Value) : KeepC n0 S A (B.setCell p u) :=
  h.trans ⟨by simp [World.setCell], fun k _ _ h1 _ h3 => (Below.heap_setCell B p u k (fun e => h3 (e ▸ hp))).trans h1⟩
theorem KeepC.putObj (W : World) (l : Nat) (o o' : Obj) (h : W.heap[l]? = some o) (hc : o.isCells = false) : KeepC n0 S W (W.putObj l o') := ⟨by simp [World.putObj], fun k t cs h1 _ _ => by
  refine h1.put_obj _ (fun e => ?_)
  subst e
  have h1' : W.heap[k]? = some (.cells cs t (0, 0)) := h1
  rw [h] at h1'
  rw [Option.some.inj h1'] at hc
  cases hc⟩
theorem KeepC.has {k : Nat} {t : TypeId} {cs : Array Value} (h : KeepC n0 S A B) (ht : k < n0 ∨ t ≠ 5) (hk : ¬ S k) (hh : Has A k t cs) : Has B k t cs := h.kept k t cs hh ht hk
theorem KeepC.tab (h : KeepC n0 S A B) (hn : 0 < n0) (hk : ¬ S 0) (hT : Tab A) : Tab B := by
  obtain ⟨t, cs, h1, h2⟩ := hT
  exact ⟨t, cs, h.has (.inl hn) hk h1, h2⟩
/-- A row of bytes of the call's own has grown. -/
theorem KeepC.grown (h : KeepC n0 S A B) {row : Option Nat} (hg : B.grownBy C row) (hr : ∀ g, row = some g → n0 ≤ g ∧ ∃ cs, Has B g 5 cs) : KeepC n0 S A C :=
  h.trans ⟨hg.size, fun k t cs h1 h2 _ => by
    refine (hg.block k h1.lt (fun e => ?_)).trans h1
    obtain ⟨hn, cs', hh⟩ := hr k e.symm
    have h1' : B.heap[k]? = some (.cells cs t (0, 0)) := h1
    have hh' : B.heap[k]? = some (.cells cs' 5 (0, 0)) := hh
    rw [hh'] at h1'
    injection h1' with h1'
    injection h1' with _ h1' _
    rcases h2 with h2 | h2
    · omega
    · exact h2 h1'.symm⟩
theorem grown_below (h : Below A.heap.size A B) : A.grownBy B none := ⟨h.os, h.tape, h.output, h.size, fun k hk _ => h.block k hk⟩
end
/-- What is told at a place: the place, and what stands there. -/
def encRd (l : List UInt8) (x : Fin l.length) : Array Value := #[.int .i64 ((x.val : Nat) : Int), .agg (readV (l.drop x.val))]
/-- A round's answer, by a Bool. -/
def YPost {α : Type} (J Jx : List α → World → Prop) (K : World → World → Prop) (ys : List α) (W : World) (b : Bool) (W' : World) : Prop := if b = true then J ys W' ∧ K W W' else Jx ys W'
theorem extract_to_end (s : ByteArray) (a : Nat) : (s.extract a s.size).data.toList = s.data.toList.drop a := by
  have : s.size = s.data.size := rfl
  rw [ByteArray.data_extract, Array.toList_extract, this, ← Array.length_toList]
  rw [List.extract_eq_take_drop]
  exact List.take_of_length_le (by rw [List.length_drop]; omega)
theorem extract_size (s : ByteArray) (a : Nat) : (s.extract a s.size).size = s.size - a := by
  have h := congrArg List.length (extract_to_end s a)
  rw [List.length_drop] at h
  have e : ∀ x : ByteArray, x.data.toList.length = x.size := fun x => by simp only [Array.length_toList]; rfl
  rw [e, e] at h
  exact h

/-- A part of the places, from the first one on. -/
def Part (L : List UInt8) (pre : List (Fin L.length)) (p : Nat) : Prop := pre.map Fin.val ++ placesFrom L p = placesFrom L 0
theorem part_next {L : List UInt8} {pre : List (Fin L.length)} {p : Nat} (h : Part L pre p) (hp : p < L.length) : Part L (pre ++ [⟨p, hp⟩]) (p + (lookAt L p).size) := by
  unfold Part at *
  rw [← h, places_step hp]
  simp

set_option maxRecDepth 100000 in
set_option maxHeartbeats 2000000 in
theorem readings1_in (n : Nat) (hn : 1 ≤ n) (s : ByteArray) (hm : s.size ≤ 9223372036854775807) (l B n0 : Nat) (Wr : Nat → Prop) (hWr : ∀ k, Wr k → k < n0) (hB : ¬ Wr B) (hG : ¬ Wr 0) (hgn : 0 < n0) (J Jx : List (Fin s.data.toList.length) → World → Prop)
    (hJ : ∀ ys W W', J ys W → Below W.heap.size W W' → J ys W')
    (hY : ∀ pre y W, J pre W → pre.length < s.size → YieldAt Fence.wide (n - 1) Tryd.prog l (encRd s.data.toList y) W fun e W' =>
      (e = .returned (.bool true) ∧ J (pre ++ [y]) W' ∧ KeepC n0 Wr W W') ∨ (e = .returned (.bool false) ∧ Jx (pre ++ [y]) W'))
    (W : World) (hn0 : n0 ≤ W.heap.size) (hT : Tab W) (h : Has W B 9 #[.string s]) (h0 : J [] W) :
    CallsIn Fence.wide n Tryd.prog 65 #[.func (.yield l) #[] #[], .pointer (some ⟨B, 0, none⟩)] W fun e W' => (∃ v, e = .returned v) ∧
      ((∃ ys, Part s.data.toList ys s.size ∧ J ys W') ∨ (∃ pre, (∃ p, p ≤ s.size ∧ Part s.data.toList pre p) ∧ Jx pre W')) := by
  have hl : s.data.toList.length = s.size := by simp only [Array.length_toList]; rfl
  refine callsIn_of_wp Tryd.func65 rfl trivial ?_ rfl
  simp only [Tryd.ntmps65, List.size_toArray, List.length_cons, List.length_nil, Nat.reduceAdd, Nat.reduceSub, Array.replicate_succ, Array.replicate_zero, List.push_toArray, List.append_toArray, List.nil_append, List.cons_append]
  have hl' := Lib.hid hl
  have h' := Lib.hid h
  have hT' := Lib.hid hT
  clear h hT hl
  gi_wp2
  gi_loopw [3] (fun x wr => ∃ (p : Nat) (pre : List (Fin s.data.toList.length)), p ≤ s.size ∧ x = .int .i64 (p : Int) ∧ Part s.data.toList pre p ∧ pre.length ≤ p ∧ J pre wr ∧ KeepC n0 Wr W wr ∧ W.heap.size ≤ wr.heap.size)
    (fun x _ => s.size - (intOf x).toNat)
  case atStart => exact ⟨0, [], Nat.zero_le _, rfl, rfl, Nat.le_refl _, h0, KeepC.refl _ _ _, Nat.le_refl _⟩
  case round =>
    obtain ⟨p, pre, hp, rfl, hpart, hpl, hJs, hK, hsz⟩ := hrel
    have hK' := Lib.hid hK
    have hpart' := Lib.hid hpart
    have hb := hK.has (.inr (by decide)) hB h'.out
    have c0 : wr.cell? ⟨B, 0, none⟩ = some (.string s) := hb.cell 0
    have hTw : Tab wr := hK.tab hgn hG hT'.out
    clear hK hpart hb
    by_cases hlt : p < s.size
    · have hlt2 : p < s.data.toList.length := by rw [hl'.out]; exact hlt
      have hrd := read_any (s.extract p s.size) (by rw [extract_size]; omega) (by rw [extract_size]; omega) wr hTw
      rw [extract_to_end] at hrd
      have hrd' := Lib.hid (callsIn_wide (n := n - 1).2 hrd)
      have hla := lookAt_le hlt2
      rw [hl'.out] at hla
      unfold lookAt at hla
      have hV : readV (s.data.toList.drop p) = readV (s.data.toList.drop p) := rfl
      conv at hV => rhs; unfold readV
      have hV' := Lib.hid hV
      have hsize : ∃ z, (look (s.data.toList.drop p)).size = z := ⟨_, rfl⟩
      obtain ⟨z, hz⟩ := hsize
      have hz' := Lib.hid hz
      rw [hz] at hla hV'
      clear hrd hV hz
      have hRL := Lib.hid (rfl : readV (s.data.toList.drop p) = readV (s.data.toList.drop p))
      generalize (look (s.data.toList.drop p)).point = pt at hV' ⊢
      generalize (told (s.data.toList.drop p)).toArray = td at hV' ⊢
      generalize (look (s.data.toList.drop p)).st = sv at hV' ⊢
      gi_wp2_with fail
      refine hrd'.out.mono ?_
      rintro e w2 ⟨rfl, hb2⟩
      rw [hV'.out]
      have hb3 : Below wr.heap.size wr (w2.alloc (.cells #[.int .i64 (pt : Int), .string ⟨td⟩, .int .i64 (z : Int), .int .i64 (sv : Int)] 99)) := hb2.alloc hb2.size _
      obtain ⟨fn, tmps, assign, body, hy, hR⟩ := hY pre ⟨p, hlt2⟩ _ (hJ _ _ _ hJs hb3) (by omega)
      have hy' : (Instr.yield l #[.int .i64 (p : Int), .agg #[.int .i64 (pt : Int), .string ⟨td⟩, .int .i64 (z : Int), .int .i64 (sv : Int)]]).run Tryd.prog (w2.alloc (.cells #[.int .i64 (pt : Int), .string ⟨td⟩, .int .i64 (z : Int), .int .i64 (sv : Int)] 99)) = .ok (Next.round l fn tmps assign body) (w2.alloc (.cells #[.int .i64 (pt : Int), .string ⟨td⟩, .int .i64 (z : Int), .int .i64 (sv : Int)] 99)) := by
        rw [← hV'.out]; rw [← hV'.out] at hy; exact hy
      have hR2 := Lib.hid (hR.mono (R' := fun e W' => ∃ b, e = .returned (.bool b) ∧ YPost J Jx (KeepC n0 Wr) (pre ++ [⟨p, hlt2⟩]) (w2.alloc (.cells #[.int .i64 (pt : Int), .string ⟨td⟩, .int .i64 (z : Int), .int .i64 (sv : Int)] 99)) b W') (by
        rintro e W' (⟨rfl, h1, h2⟩ | ⟨rfl, h1⟩)
        · exact ⟨true, rfl, h1, h2⟩
        · exact ⟨false, rfl, h1⟩))
      have hX := Lib.hid (Has.new w2 99 #[.int .i64 (pt : Int), .string ⟨td⟩, .int .i64 (z : Int), .int .i64 (sv : Int)])
      have hb3' := Lib.hid hb3
      have hw2n := Lib.hid (Nat.le_trans hn0 (Nat.le_trans hsz hb2.size))
      have hnext := Lib.hid (part_next hpart'.out hlt2)
      rw [show (lookAt s.data.toList p).size = z from hz'.out] at hnext
      clear hy hR hb3 hJs hV' hb2
      gi_wp2
      refine hR2.out.mono ?_
      rintro e W3 ⟨b, rfl, hP⟩
      cases b
      · have hP' := Lib.hid (show Jx (pre ++ [⟨p, hlt2⟩]) W3 from hP)
        clear hP
        gi_wp2
        refine bodyPost_ret (results_none rfl _ _ _) rfl ?_
        exact ⟨⟨_, rfl⟩, .inr ⟨_, ⟨p + z, hla.1, hnext.out⟩, hP'.out⟩⟩
      · have hP' := Lib.hid (show J (pre ++ [⟨p, hlt2⟩]) W3 ∧ KeepC n0 Wr (w2.alloc (.cells #[.int .i64 (pt : Int), .string ⟨td⟩, .int .i64 (z : Int), .int .i64 (sv : Int)] 99)) W3 from hP)
        clear hP
        have hX3 := hP'.out.2.has (.inr (by decide)) (fun h => by have := hWr _ h; have := hw2n.out; omega) hX.out
        have c2 := hX3.cell 2
        clear hX3
        gi_wp2
        have hKf := (hK'.out.trans (KeepC.below hb3'.out)).trans hP'.out.2
        exact ⟨⟨p + z, pre ++ [⟨p, hlt2⟩], hla.1, by go_num, hnext.out, by simp; omega, hP'.out.1, hKf, hKf.size⟩, by simp [intOf]; omega⟩
    · obtain rfl : p = s.size := by omega
      gi_wp2
      go_end0
      exact ⟨⟨_, rfl⟩, .inl ⟨_, hpart'.out, hJs⟩⟩
/-- What stands in a text, gone over. -/
theorem readings_stops (n : Nat) (hn : 1 ≤ n) (s : ByteArray) (hm : s.size ≤ 9223372036854775807) (B : Nat) (Wr : Nat → Prop) (w : World) (hWr : ∀ k, Wr k → k < w.heap.size) (hB : ¬ Wr B) (hG : ¬ Wr 0) (hT : Tab w) (h : Has w B 9 #[.string s]) :
    SeqStopsK Fence.wide n Tryd.prog 65 #[.pointer (some ⟨B, 0, none⟩)] (encRd s.data.toList) (KeepC w.heap.size Wr) (fun ys => Part s.data.toList ys s.size) (fun pre => ∃ p, p ≤ s.size ∧ Part s.data.toList pre p) s.size w := fun l J Jx W hW hA _ hY h0 =>
  readings1_in n hn s hm l B w.heap.size Wr hWr hB hG hT.lt J Jx (fun ys W1 W2 h1 h2 => hA ys W1 W2 none h1 (grown_below h2) (fun r e => by cases e)) hY W hW.size (hT.below hW) (h.below hW h.lt) h0
theorem readings_any (s : ByteArray) (w : World) : Calls Tryd.prog 43 #[.string s] w fun e w' => e = .returned (.func (.func 65) #[] #[.pointer (some ⟨w.heap.size, 0, none⟩)]) ∧ w' = w.alloc (.cells #[.string s] 9) := by
  go_enter Tryd.func43, Tryd.ntmps43
  go_wp2
  go_ret
  exact ⟨rfl, rfl⟩
end Go.Proofs.YthdmmlaahjgijaaDoor
