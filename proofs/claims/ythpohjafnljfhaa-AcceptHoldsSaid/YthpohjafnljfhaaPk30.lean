import Derived.Test.YthpohjafnljfhaaPk26
import Derived.Test.YthpohjafnljfhaaPk1
import Derived.RangeFuncNested
import Derived.RangeFuncBox
import Derived.RangeFuncBound
import Derived.RangeFuncCalls
import Derived.OwnWalkIn
import Derived.TacticsInMore
import Derived.LoopNIn
import Derived.LoopIn
import Derived.Stop.RegionWithIn
namespace Go.Proofs.Ythpohjafnljfhaa
open Go.RowKit
attribute [local go_sem] Oper.semAt_some
theorem wide_fn (f : FuncId) : Fence.wide.fn f = True := rfl
theorem wide_depth : Fence.wide.depth.isSome = false := rfl
theorem wide_round (l : Nat) (f : FuncId) : (Fence.wide.inRound l).fn f = True := rfl
attribute [local go_sem] wide_fn wide_depth wide_round

/-! ## A range over a function that is left in its first round -/
/-- What an iterator may have done: below B nothing; from B on what is no cells stays, or is a loop's own. -/
structure Turn (B : Nat) (a b : World) : Prop where
  os : b.os = a.os
  tape : b.tape = a.tape
  output : b.output = a.output
  size : a.heap.size ≤ b.heap.size
  low : ∀ k, k < B → k < a.heap.size → b.heap[k]? = a.heap[k]?
section
variable {B : Nat} {a b c : World}
theorem Turn.refl (B : Nat) (a : World) : Turn B a a := ⟨rfl, rfl, rfl, Nat.le_refl _, fun _ _ _ => rfl⟩
theorem Turn.trans (h : Turn B a b) (k : Turn B b c) : Turn B a c := ⟨k.os.trans h.os, k.tape.trans h.tape, k.output.trans h.output, Nat.le_trans h.size k.size, fun i hi hl => (k.low i hi (Nat.lt_of_lt_of_le hl h.size)).trans (h.low i hi hl)⟩
theorem Turn.of_below (h : Below B a b) : Turn B a b := ⟨h.os, h.tape, h.output, h.size, fun k hk _ => h.block k hk⟩
theorem Turn.of_belowA (h : Below a.heap.size a b) : Turn B a b := ⟨h.os, h.tape, h.output, h.size, fun k _ hl => h.block k hl⟩
theorem Turn.alloc (B : Nat) (a : World) (o : Obj) : Turn B a (a.alloc o) := .of_belowA ((Below.refl _ _).alloc (Nat.le_refl _) _)
theorem Turn.putObj {l : Nat} {o : Obj} (o' : Obj) (hB : B ≤ l) (_ : a.heap[l]? = some o) (_ : o.isCells = false) : Turn B a (a.putObj l o') :=
  ⟨rfl, rfl, rfl, by simp [World.putObj], fun k hk _ => World.putObj_heap_other (by omega)⟩
theorem Turn.down {B' : Nat} (h : Turn B' a b) (hB : B ≤ B') : Turn B a b := ⟨h.os, h.tape, h.output, h.size, fun k hk => h.low k (by omega)⟩
theorem Turn.obj {k : Nat} {o : Obj} (h : Turn B a b) (ho : a.heap[k]? = some o) (hB : k < B) : b.heap[k]? = some o := (h.low k hB (Array.getElem?_eq_some_iff.1 ho).1).trans ho
theorem Turn.has {k : Nat} {cs : Array Value} {t : TypeId} (h : Turn B a b) (ho : Has a k t cs) (hB : k < B) : Has b k t cs := h.obj ho hB
theorem Turn.only {g : Nat} (h : Only g a b) (hg : B ≤ g) : Turn B a b := .of_below (h.below hg)
theorem Turn.on {w : World} (h : Turn w.heap.size a b) (hw : Below w.heap.size w a) : Below w.heap.size w b :=
  ⟨h.os.trans hw.os, h.tape.trans hw.tape, h.output.trans hw.output, Nat.le_trans hw.size h.size, fun k hk => (h.low k hk (Nat.lt_of_lt_of_le hk hw.size)).trans (hw.block k hk)⟩
end
/-- An iterator whose first round is left: what it tells there. -/
def SeqFirst {α : Type} (n : Nat) (P : Program) (gf : Nat) (lb : Array Value) (encs : α → Array Value) (x : α) (w : World) : Prop :=
  ∀ (l : Nat) (J Jx : World → Prop) (W : World), Below w.heap.size w W → (∀ X Y, J X → Turn W.heap.size X Y → J Y) → (∀ X Y, Jx X → Turn W.heap.size X Y → Jx Y) →
    (∀ V, J V → YieldAt Fence.wide (n - 1) P l (encs x) V fun e V' => KeepsFrom W.heap.size V V' ∧ e = .returned (.bool false) ∧ Jx V') → J W →
    CallsIn Fence.wide n P gf (#[.func (.yield l) #[] #[]] ++ lb) W fun e V => (∃ v, e = .returned v) ∧ Jx V
set_option maxHeartbeats 1000000 in
theorem wpIn_range_first {α : Type} {n : Nat} {P : Program} {g : Operand} {ps : Array Tmp} {assign body : Code} {Q : Exit → Act → World → Prop} {a : Act} {w : World} (id : Nat)
    {gf : Nat} {lb : Array Value} (hg : a.eval g = .func (.func gf) #[] lb) (eg : ∀ args w, (callFunc gf args).run P w = .ok (.enter gf args) w)
    {encs : α → Array Value} {x : α} {w0 : World} (hseq : SeqFirst (n - 1) P gf lb encs x w0)
    (hb0 : Below w0.heap.size w0 w) (hps : ∀ x, (encs x).size = ps.size)
    (I M : World → Prop) (hI : ∀ X Y, I X → Turn w.heap.size X Y → I Y) (hM : ∀ X Y, M X → Turn w.heap.size X Y → M Y) (h0 : I w) (a₁ : Act)
    (hassign : ∀ (l : Nat) (W : World) (K : Act → World → Prop), K a₁ W →
      assign.wpIn (Fence.wide.inRound l) (n - 1 - 1) P (Exit.then K (fun _ _ _ => False)) { tmps := (ps.zip (encs x)).foldl (fun t (p, v) => t.setIfInBounds p v) a.tmps, defers := [] } W)
    (hbody : ∀ (l : Nat) (W : World), I W → body.wpIn (Fence.wide.inRound l) (n - 1 - 1) P (fun e _ W' => e = .exit id ∧ KeepsFrom w.heap.size W W' ∧ M W') a₁ W)
    (hq : ∀ a W, Q .normal a W → Q (.exit id) a W)
    (hrest : ∀ (D : Nat) (W : World), w.heap.size ≤ D → M W → NoCalls W D → Q .normal { a with defers := { target := .collected D, args := #[] } :: a.defers } W) :
    (Code.rangeFunc g ps assign body).wpIn Fence.wide n P Q a w := by
  refine wpIn_rangeFunc fun fn hfn => ?_
  obtain ⟨rc, hrc⟩ : ∃ rc : LoopState → Option Code → Loop, rc = fun st pe => { state := st, pending := pe, fn, tmps := a.tmps, params := ps, assign, body, defers := w.heap.size } := ⟨_, rfl⟩
  obtain ⟨V, hV⟩ : ∃ V, (w.alloc (.deferred (some []))).alloc (.loop (rc .ready none)) = V := ⟨_, rfl⟩
  have zV : V.heap.size = w.heap.size + 1 + 1 := by rw [← hV]; simp
  have lr : V.heap[w.heap.size + 1]? = some (.loop (rc .ready none)) := by rw [← hV]; have := World.alloc_heap_new (w.alloc (.deferred (some []))) (.loop (rc .ready none)); rwa [World.size_alloc] at this
  have ld : V.heap[w.heap.size]? = some (.deferred (some [])) := by rw [← hV]; exact (Below.heap_alloc _ _ _ (by simp)).trans (World.alloc_heap_new w _)
  have hIV : I V := by rw [← hV]; exact hI _ _ h0 ((Turn.alloc _ _ _).trans (Turn.alloc _ _ _))
  have hbV : Below w0.heap.size w0 V := by rw [← hV]; exact hb0.trans ((((Below.refl _ w).alloc (Nat.le_refl _) _).alloc (by simp) _).mono hb0.size)
  refine ⟨w.heap.size + 1, [{ target := .collected w.heap.size, args := #[] }], V, { target := .fn (.func gf) lb, args := #[.func (.yield (w.heap.size + 1)) #[] #[]] }, V, gf, #[.func (.yield (w.heap.size + 1)) #[] #[]] ++ lb, V, ?_, ?_, fun _ _ => trivial, ?_, fun h => (by cases h), ?_⟩
  · rw [← hV, hrc]; exact run_enterLoop_outer _ _ _ _ _
  · simp only [resolve, hg]; simp [go_sem]
  · simp [invoke, go_sem, eg]
  · refine (hseq (w.heap.size + 1) (fun W => I W ∧ W.heap[w.heap.size + 1]? = some (.loop (rc .ready none)) ∧ W.heap[w.heap.size]? = some (.deferred (some [])))
      (fun W => M W ∧ W.heap[w.heap.size + 1]? = some (.loop (rc .done (some (.exit id)))) ∧ W.heap[w.heap.size]? = some (.deferred (some []))) V hbV
      (fun X Y hs ht => ⟨hI X Y hs.1 (ht.down (by omega)), ht.obj hs.2.1 (by omega), ht.obj hs.2.2 (by omega)⟩)
      (fun X Y hs ht => ⟨hM X Y hs.1 (ht.down (by omega)), ht.obj hs.2.1 (by omega), ht.obj hs.2.2 (by omega)⟩) ?_ ⟨hIV, lr, ld⟩).mono ?_
    · rintro X ⟨hi, hl, hd⟩
      have hy := run_yield (P := P) (args := encs x) hl (by rw [hrc]; exact hps x)
      rw [hrc] at hy
      refine ⟨fn, _, assign, body, hy, roundIn_of_wpIn hfn (hassign _ X _ ⟨_, run_beginRound hl (by rw [hrc]), ?_⟩)⟩
      have hlt : w.heap.size + 1 < X.heap.size := (Array.getElem?_eq_some_iff.1 hl).1
      obtain ⟨Y, hY⟩ : ∃ Y, X.putObj (w.heap.size + 1) (.loop { rc .ready none with state := .busy }) = Y := ⟨_, rfl⟩
      rw [hY]
      have yl : Y.heap[w.heap.size + 1]? = some (.loop { rc .ready none with state := .busy }) := by rw [← hY]; exact World.putObj_heap_same hlt
      have yd : Y.heap[w.heap.size]? = some (.deferred (some [])) := by rw [← hY]; exact (World.putObj_heap_other (by omega)).trans hd
      have yi : I Y := by rw [← hY]; exact hI _ _ hi (Turn.putObj _ (by omega) hl rfl)
      have ys : Y.heap.size = X.heap.size := by rw [← hY]; simp [World.putObj]
      refine wpIn_mono (hbody _ Y yi) ?_
      have fin : ∀ (jump : Option Code) (Z : World), KeepsFrom w.heap.size Y Z →
          (Instr.endRound (w.heap.size + 1) jump).run P Z = .ok (.bool jump.isNone) (Z.putObj (w.heap.size + 1) (.loop (rc (if jump.isNone then .ready else .done) jump))) ∧
          Z.heap[w.heap.size + 1]? = some (.loop { rc .ready none with state := .busy }) ∧
          (Z.putObj (w.heap.size + 1) (.loop (rc (if jump.isNone then .ready else .done) jump))).heap[w.heap.size + 1]? = some (.loop (rc (if jump.isNone then .ready else .done) jump)) ∧
          (Z.putObj (w.heap.size + 1) (.loop (rc (if jump.isNone then .ready else .done) jump))).heap[w.heap.size]? = some (.deferred (some [])) ∧
          KeepsFrom V.heap.size X (Z.putObj (w.heap.size + 1) (.loop (rc (if jump.isNone then .ready else .done) jump))) := fun jump Z hk => by
        have zl := hk.same _ _ (by omega) yl rfl
        have := run_endRound (P := P) jump zl
        rw [hrc] at this ⊢
        refine ⟨this, by rw [hrc] at zl; exact zl, World.putObj_heap_same (Array.getElem?_eq_some_iff.1 zl).1, (World.putObj_heap_other (by omega)).trans (hk.same _ _ (Nat.le_refl _) yd rfl), ?_, fun k o hk1 hk2 hk3 => ?_⟩
        · have := hk.size; simp [World.putObj]; omega
        · refine (World.putObj_heap_other (by omega)).trans (hk.same k o (by omega) ?_ hk3)
          rw [← hY]
          exact (World.putObj_heap_other (by omega)).trans hk2
      rintro e a3 Z ⟨rfl, hk3, hi3⟩
      obtain ⟨hr, hl3, hl4, hk4, hkf⟩ := fin (some (.exit id)) Z hk3
      exact ⟨_, _, hr, hkf, rfl, hM _ _ hi3 (Turn.putObj _ (by omega) hl3 rfl), hl4, hk4⟩
    · rintro e Z ⟨⟨v, rfl⟩, hi, hl, hk⟩
      have hix := hM _ _ hi (Turn.putObj (.loop { rc .done (some (.exit id)) with state := .exhausted }) (by omega) hl rfl)
      exact ⟨some (.exit id), _, by have := run_endLoop (P := P) hl (by rw [hrc]; simp); rw [hrc] at this ⊢; exact this, wpIn_exit (hq _ _ (hrest _ _ (Nat.le_refl _) hix ((World.putObj_heap_other (by omega)).trans hk)))⟩
def encP (x : Nat × List UInt8) : Array Value := #[.int .i64 (x.1 : Int), .string ⟨x.2.toArray⟩]
set_option maxRecDepth 100000 in
set_option maxHeartbeats 4000000 in
theorem parts1_first (n : Nat) (s : List UInt8) (c : UInt8) (hs : s.length ≤ 1000000) (B1 B2 : Nat) (w : World) (k1 : Has w B1 9 #[.string ⟨s.toArray⟩]) (k2 : Has w B2 5 #[.int .u8 (c.toNat : Int)]) :
    SeqFirst n Try.prog 54 #[.pointer (some ⟨B1, 0, none⟩), .pointer (some ⟨B2, 0, none⟩)] encP (0, aheadL c s false) w := by
  intro l J Jx W hW hJ hJx hY h0
  have k1 := k1.below hW k1.lt
  have k2 := k2.below hW k2.lt
  have c1 := k1.cell 0
  have hA : Below W.heap.size W (W.alloc (.cells #[.string ⟨s.toArray⟩, .bool false] 84)) := (Below.refl W.heap.size W).alloc (Nat.le_refl _) _
  have hJa := Lib.hid (hJ W _ h0 (Turn.of_below hA))
  have hra : RdAt (W.alloc (.cells #[.string ⟨s.toArray⟩, .bool false] 84)) W.heap.size s false := Has.new _ _ _
  have k2a := k2.below hA k2.lt
  have c2 := k2a.cell 0
  have hpa := Lib.hid ((callsIn_wide (n := n - 1)).2 (part_any W.heap.size c s false _ hra hs))
  unfold PartR at hpa
  have hY' := Lib.hid hY
  have hJ' := Lib.hid hJ
  clear hY hJ h0 hra k1 k2 k2a hA
  refine callsIn_of_wp Try.func54 rfl trivial ?_ rfl
  simp only [Try.ntmps54, List.size_toArray, List.length_cons, List.length_nil, Nat.reduceAdd, Nat.reduceSub, Array.replicate_succ, Array.replicate_zero, List.push_toArray, List.append_toArray, List.nil_append, List.cons_append]
  gi_wp2
  gi_loopw [5] (fun x wr => x = .int .i64 ((0 : Nat) : Int) ∧ wr = W.alloc (.cells #[.string ⟨s.toArray⟩, .bool false] 84)) (fun _ _ => 0)
  case atStart => exact ⟨rfl, rfl⟩
  case round =>
    obtain ⟨rfl, rfl⟩ := hrel
    gi_wp2_with fail
    refine hpa.out.mono ?_
    rintro e w2 ⟨ho2, rfl, t', q', hrd2, _, _⟩
    have hJ2 := hJ'.out _ _ hJa.out (Turn.only ho2 (Nat.le_refl _))
    obtain ⟨fn, tmps, assign, body, hy, hR⟩ := hY'.out w2 hJ2
    have hy' : (Instr.yield l #[.int .i64 0, .string ⟨(aheadL c s false).toArray⟩]).run Try.prog w2 = .ok (Next.round l fn tmps assign body) w2 := hy
    have hR' := Lib.hid hR
    clear hy hR hJ2 hrd2 ho2 hJa hpa hY' hJ'
    gi_wp2
    refine hR'.out.mono ?_
    rintro e W3 ⟨hk3, rfl, hx3⟩
    have hx3' := Lib.hid hx3
    clear hx3 hk3
    gi_wp2
    refine bodyPost_ret (results_none rfl _ _ _) rfl ?_
    exact ⟨⟨_, rfl⟩, hx3'.out⟩
theorem parts_any (s : List UInt8) (c : UInt8) (w : World) : Calls Try.prog 46 #[.string ⟨s.toArray⟩, .int .u8 (c.toNat : Int)] w fun e w' => e = .returned (.func (.func 54) #[] #[.pointer (some ⟨w.heap.size, 0, none⟩), .pointer (some ⟨w.heap.size + 1, 0, none⟩)]) ∧ w' = (w.alloc (.cells #[.string ⟨s.toArray⟩] 9)).alloc (.cells #[.int .u8 (c.toNat : Int)] 5) := by
  go_enter Try.func46, Try.ntmps46
  go_wp2
  go_ret
  exact ⟨rfl, rfl⟩
end Go.Proofs.Ythpohjafnljfhaa
