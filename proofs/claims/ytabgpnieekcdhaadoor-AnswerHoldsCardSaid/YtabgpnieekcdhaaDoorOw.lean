import Derived.Test.YtabgpnieekcdhaaDoorL
import Derived.Test.YtabgpnieekcdhaaDoorR
import Derived.KernelRfl
import Derived.WalkMore
import Derived.BigRegionIn
import Derived.Shelf.Abstract
import Derived.RangeFuncNested
import Derived.RangeFuncBox
import Derived.RangeFuncBound
import Derived.RangeFuncCalls
import Derived.RangeFuncLeaves
import Derived.WalkKit
import Derived.OwnWalkIn
import Derived.TacticsInMore
import Derived.LoopNIn
import Derived.LoopIn
import Derived.Lib.Hide
import Derived.Shelf.RegionOpen
import Derived.RangeFuncRecord
namespace Go.Proofs.YtabgpnieekcdhaaDoor
open Go.RowKit Go.Shelf
attribute [local go_sem] Oper.semAt_some
theorem wideF_fn (f : FuncId) : Fence.wide.fn f = True := rfl
theorem wideF_depth : Fence.wide.depth.isSome = false := rfl
theorem wideF_round (l : Nat) (f : FuncId) : (Fence.wide.inRound l).fn f = True := rfl
attribute [local go_sem] wideF_fn wideF_depth wideF_round

/-! ## Ranges over functions: what serves them (of no layer) -/
theorem grown_below {A B : World} (h : Below A.heap.size A B) : A.grownBy B none := ⟨h.os, h.tape, h.output, h.size, fun k hk _ => h.block k hk⟩
/-- A round's answer, by a Bool. -/
def YPost {α : Type} (J Jx : List α → World → Prop) (K : World → World → Prop) (ys : List α) (W : World) (b : Bool) (W' : World) : Prop := if b = true then J ys W' ∧ K W W' else Jx ys W'
/-- A block of cells abides the turn of what is no cells. -/
theorem Has.row {X Y : World} {row : Option Nat} {k : Nat} {t : TypeId} {cs : Array Value} {B : Nat} (hs : Has X k t cs) (hg : X.grownBy Y row) (hr : ∀ r, row = some r → B ≤ r ∧ ∃ o : Obj, X.heap[r]? = some o ∧ o.isCells = false) : Has Y k t cs :=
  (hg.block k hs.lt (fun e => by
    obtain ⟨_, o, ho, hc⟩ := hr k e.symm
    have hs' : X.heap[k]? = some (.cells cs t (0, 0)) := hs
    rw [hs'] at ho
    rw [← Option.some.inj ho] at hc
    cases hc)).trans hs
/-- The frame of a round whose variable lies in a box. -/
def AxB {α : Type} (F : α → Nat → Act) (t : TypeId) (V : α → Array Value) (x : α) (a' : Act) (W : World) : Prop := ∃ k, a' = F x k ∧ Has W k t (V x)
theorem axB_from {α : Type} {B : Nat} {F : α → Nat → Act} {t : TypeId} {V : α → Array Value} (x : α) (a' : Act) : OwnFrom B (fun (_ : Unit) W => AxB F t V x a' W) := fun _ X Y row hs hg hr => by
  obtain ⟨k, e, h⟩ := hs
  exact ⟨k, e, h.row hg hr⟩
/-- The contract: as SeqStopsK, but that the caller's two words abide more, and that each round says what of the iterator's own it left alone. -/
def SeqOwn {α : Type} (n : Nat) (P : Program) (gf : Nat) (lb : Array Value) (encs : α → Array Value) (Kp : World → World → Prop) (S Sp : List α → Prop) (N : Nat) (w : World) : Prop :=
  ∀ (l : Nat) (J Jx : List α → World → Prop) (W : World), Below w.heap.size w W → OwnFrom W.heap.size J → OwnFrom W.heap.size Jx →
    (∀ pre x V, J pre V → pre.length < N → YieldAt Fence.wide (n - 1) P l (encs x) V fun e V' => KeepsFrom W.heap.size V V' ∧
      ((e = .returned (.bool true) ∧ J (pre ++ [x]) V' ∧ Kp V V') ∨ (e = .returned (.bool false) ∧ Jx (pre ++ [x]) V'))) → J [] W →
    CallsIn Fence.wide n P gf (#[.func (.yield l) #[] #[]] ++ lb) W fun e V => (∃ v, e = .returned v) ∧ ((∃ xs, S xs ∧ J xs V) ∨ (∃ pre, Sp pre ∧ Jx pre V))
theorem round_any {m m' l l' : Nat} {P : Program} {f : FuncId} {tmps : Array Value} {assign body : Code} {w : World} {R : Ending → World → Prop}
    (h : RoundIn Fence.wide m P l f tmps assign body w R) : RoundIn (Fence.wide.inRound l') m' P l f tmps assign body w R :=
  ⟨h.1, fun c cs _ => h.2 c cs (room_wide _)⟩
/-- Non-cells of an index lie as they lay behind the turn of another block. -/
theorem grown_obj {X Y : World} {row : Option Nat} {k B : Nat} {o : Obj} (h : X.heap[k]? = some o) (hg : X.grownBy Y row) (hr : ∀ r, row = some r → B ≤ r ∧ ∃ o : Obj, X.heap[r]? = some o ∧ o.isCells = false) (hk : k < B) : Y.heap[k]? = some o :=
  (hg.block k (Array.getElem?_eq_some_iff.1 h).1 (fun e => by have := (hr k e.symm).1; omega)).trans h
set_option maxHeartbeats 1000000 in
theorem wpIn_range_own {α : Type} {n : Nat} {P : Program} {g : Operand} {ps : Array Tmp} {assign body : Code} {Q : Exit → Act → World → Prop} {a : Act} {w : World} (id : Nat)
    {gf : Nat} {lb : Array Value} (hg : a.eval g = .func (.func gf) #[] lb) (eg : ∀ args w, (callFunc gf args).run P w = .ok (.enter gf args) w)
    {encs : α → Array Value} {Kp : World → World → Prop} {S Sp : List α → Prop} {N : Nat} {w0 : World} (hseq : SeqOwn (n - 1) P gf lb encs Kp S Sp N w0)
    (hKt : ∀ {A B C : World}, Kp A B → Kp B C → Kp A C) (hKb : ∀ (W : World) (l : Nat) (o o' : Obj), w.heap.size ≤ l → W.heap[l]? = some o → o.isCells = false → o.isWalk = false → Kp W (W.putObj l o'))
    (hb0 : Below w0.heap.size w0 w) (hps : ∀ x, (encs x).size = ps.size)
    (I : List α → World → Prop) (Ix : Code → List α → World → Prop) (M : World → Prop) (hI : OwnFrom w.heap.size I) (hIx : ∀ c, OwnFrom w.heap.size (Ix c)) (h0 : I [] w)
    (hall : ∀ xs W, S xs → I xs W → M W) (hleft : ∀ c pre W, Sp pre → Ix c pre W → c = .exit id ∧ M W) (a₁ : α → Act)
    (hassign : ∀ (l : Nat) (x : α) (W : World) (K : Act → World → Prop), K (a₁ x) W →
      assign.wpIn (Fence.wide.inRound l) (n - 1 - 1) P (Exit.then K (fun _ _ _ => False)) { tmps := (ps.zip (encs x)).foldl (fun t (p, v) => t.setIfInBounds p v) a.tmps, defers := [] } W)
    (hbody : ∀ (l : Nat) (pre : List α) (x : α) (W : World), I pre W → pre.length < N → body.wpIn (Fence.wide.inRound l) (n - 1 - 1) P (ownPostG w.heap.size Kp I Ix (pre ++ [x]) W) (a₁ x) W)
    (hq : ∀ a W, Q .normal a W → Q (.exit id) a W)
    (hrest : ∀ (D : Nat) (W : World), w.heap.size ≤ D → M W → NoCalls W D → Q .normal { a with defers := { target := .collected D, args := #[] } :: a.defers } W) :
    (Code.rangeFunc g ps assign body).wpIn Fence.wide n P Q a w := by
  refine wpIn_rangeFunc fun fn hfn => ?_
  obtain ⟨rc, hrc⟩ : ∃ rc : LoopState → Option Code → Loop, rc = fun st pe => { state := st, pending := pe, fn, tmps := a.tmps, params := ps, assign, body, defers := w.heap.size } := ⟨_, rfl⟩
  obtain ⟨V, hV⟩ : ∃ V, (w.alloc (.deferred (some []))).alloc (.loop (rc .ready none)) = V := ⟨_, rfl⟩
  have zV : V.heap.size = w.heap.size + 1 + 1 := by rw [← hV]; simp
  have lr : V.heap[w.heap.size + 1]? = some (.loop (rc .ready none)) := by rw [← hV]; have := World.alloc_heap_new (w.alloc (.deferred (some []))) (.loop (rc .ready none)); rwa [World.size_alloc] at this
  have ld : V.heap[w.heap.size]? = some (.deferred (some [])) := by rw [← hV]; exact (Below.heap_alloc _ _ _ (by simp)).trans (World.alloc_heap_new w _)
  have hIV : I [] V := by rw [← hV]; exact hI.alloc _ (hI.alloc _ h0)
  have hbV : Below w0.heap.size w0 V := by rw [← hV]; exact hb0.trans ((((Below.refl _ w).alloc (Nat.le_refl _) _).alloc (by simp) _).mono hb0.size)
  refine ⟨w.heap.size + 1, [{ target := .collected w.heap.size, args := #[] }], V, { target := .fn (.func gf) lb, args := #[.func (.yield (w.heap.size + 1)) #[] #[]] }, V, gf, #[.func (.yield (w.heap.size + 1)) #[] #[]] ++ lb, V, ?_, ?_, fun _ _ => trivial, ?_, fun h => (by cases h), ?_⟩
  · rw [← hV, hrc]; exact run_enterLoop_outer _ _ _ _ _
  · simp only [resolve, hg]; simp [go_sem]
  · simp [invoke, go_sem, eg]
  · have up : ∀ {X : World} {row : Option Nat}, (∀ r, row = some r → V.heap.size ≤ r ∧ ∃ o : Obj, X.heap[r]? = some o ∧ o.isCells = false) → ∀ r, row = some r → w.heap.size ≤ r ∧ ∃ o : Obj, X.heap[r]? = some o ∧ o.isCells = false :=
      fun hr r e => ⟨by have := (hr r e).1; omega, (hr r e).2⟩
    refine (hseq (w.heap.size + 1) (fun pre W => I pre W ∧ W.heap[w.heap.size + 1]? = some (.loop (rc .ready none)) ∧ W.heap[w.heap.size]? = some (.deferred (some [])))
      (fun pre W => ∃ c, Ix c pre W ∧ W.heap[w.heap.size + 1]? = some (.loop (rc .done (some c))) ∧ W.heap[w.heap.size]? = some (.deferred (some []))) V hbV
      (fun s X Y row hs hg' hr => ⟨hI s X Y row hs.1 hg' (up hr), grown_obj hs.2.1 hg' hr (by omega), grown_obj hs.2.2 hg' hr (by omega)⟩)
      (fun s X Y row hs hg' hr => by
        obtain ⟨c, h1, h2, h3⟩ := hs
        exact ⟨c, hIx c s X Y row h1 hg' (up hr), grown_obj h2 hg' hr (by omega), grown_obj h3 hg' hr (by omega)⟩) ?_ ⟨hIV, lr, ld⟩).mono ?_
    · rintro pre x X ⟨hi, hl, hd⟩ hlen
      have hy := run_yield (P := P) (args := encs x) hl (by rw [hrc]; exact hps x)
      rw [hrc] at hy
      refine ⟨fn, _, assign, body, hy, roundIn_of_wpIn hfn (hassign _ x X _ ⟨_, run_beginRound hl (by rw [hrc]), ?_⟩)⟩
      have hlt : w.heap.size + 1 < X.heap.size := (Array.getElem?_eq_some_iff.1 hl).1
      obtain ⟨Y, hY⟩ : ∃ Y, X.putObj (w.heap.size + 1) (.loop { rc .ready none with state := .busy }) = Y := ⟨_, rfl⟩
      rw [hY]
      have yl : Y.heap[w.heap.size + 1]? = some (.loop { rc .ready none with state := .busy }) := by rw [← hY]; exact World.putObj_heap_same hlt
      have yd : Y.heap[w.heap.size]? = some (.deferred (some [])) := by rw [← hY]; exact (World.putObj_heap_other (by omega)).trans hd
      have yi : I pre Y := by rw [← hY]; exact hI.putObj _ hi (by omega) hl rfl
      have yk : Kp X Y := by rw [← hY]; exact hKb _ _ _ _ (by omega) hl rfl rfl
      have ys : Y.heap.size = X.heap.size := by rw [← hY]; simp [World.putObj]
      refine wpIn_mono (hbody _ pre x Y yi hlen) ?_
      have fin : ∀ (jump : Option Code) (Z : World), KeepsFrom w.heap.size Y Z →
          (Instr.endRound (w.heap.size + 1) jump).run P Z = .ok (.bool jump.isNone) (Z.putObj (w.heap.size + 1) (.loop (rc (if jump.isNone then .ready else .done) jump))) ∧
          Z.heap[w.heap.size + 1]? = some (.loop { rc .ready none with state := .busy }) ∧
          (Z.putObj (w.heap.size + 1) (.loop (rc (if jump.isNone then .ready else .done) jump))).heap[w.heap.size + 1]? = some (.loop (rc (if jump.isNone then .ready else .done) jump)) ∧
          (Z.putObj (w.heap.size + 1) (.loop (rc (if jump.isNone then .ready else .done) jump))).heap[w.heap.size]? = some (.deferred (some [])) ∧
          KeepsFrom V.heap.size X (Z.putObj (w.heap.size + 1) (.loop (rc (if jump.isNone then .ready else .done) jump))) := fun jump Z hk => by
        have zl := hk.same _ _ (by omega) yl rfl
        have := run_endRound (P := P) jump zl
        rw [hrc] at this ⊢
        refine ⟨this, by rw [hrc] at zl; exact zl, World.putObj_heap_same (Array.getElem?_eq_some_iff.1 zl).1, (World.putObj_heap_other (by omega)).trans (hk.same _ _ (Nat.le_refl _) yd rfl), ?_, fun k o hk1 hk2 hk3 => ?_⟩
        · have := hk.size; simp [World.putObj]; omega
        · refine (World.putObj_heap_other (by omega)).trans (hk.same k o (by omega) ?_ hk3)
          rw [← hY]
          exact (World.putObj_heap_other (by omega)).trans hk2
      rintro e a3 Z hp
      cases e with
      | normal =>
        obtain ⟨hk3, hkp3, hi3⟩ := hp
        obtain ⟨hr, hl3, hl4, hk4, hkf⟩ := fin none Z hk3
        exact ⟨_, _, hr, hkf, .inl ⟨rfl, ⟨hI.putObj _ hi3 (by omega) hl3 rfl, hl4, hk4⟩, hKt (hKt yk hkp3) (hKb _ _ _ _ (by omega) hl3 rfl rfl)⟩⟩
      | ret =>
        obtain ⟨hk3, hi3⟩ := hp
        obtain ⟨hr, hl3, hl4, hk4, hkf⟩ := fin (some .ret) Z hk3
        exact ⟨_, _, hr, hkf, .inr ⟨rfl, .ret, (hIx _).putObj _ hi3 (by omega) hl3 rfl, hl4, hk4⟩⟩
      | exit id' =>
        obtain ⟨hk3, hi3⟩ := hp
        obtain ⟨hr, hl3, hl4, hk4, hkf⟩ := fin (some (.exit id')) Z hk3
        exact ⟨_, _, hr, hkf, .inr ⟨rfl, .exit id', (hIx _).putObj _ hi3 (by omega) hl3 rfl, hl4, hk4⟩⟩
      | goto t =>
        obtain ⟨hk3, hi3⟩ := hp
        obtain ⟨hr, hl3, hl4, hk4, hkf⟩ := fin (some (.goto t)) Z hk3
        exact ⟨_, _, hr, hkf, .inr ⟨rfl, .goto t, (hIx _).putObj _ hi3 (by omega) hl3 rfl, hl4, hk4⟩⟩
      | panic ch => exact hp.elim
      | outgrown => exact hp.elim
    · rintro e Z ⟨⟨v, rfl⟩, (⟨xs, hS, hi, hl, hk⟩ | ⟨pre, hSp, c, hi, hl, hk⟩)⟩
      · exact ⟨none, _, by have := run_endLoop (P := P) hl (by rw [hrc]; simp); rw [hrc] at this; exact this, hrest _ _ (Nat.le_refl _) (hall xs _ hS (hI.putObj _ hi (by omega) hl rfl)) ((World.putObj_heap_other (by omega)).trans hk)⟩
      · have hix := (hIx c).putObj (.loop { rc .done (some c) with state := .exhausted }) hi (by omega) hl rfl
        obtain ⟨rfl, hM⟩ := hleft c pre _ hSp hix
        exact ⟨some (.exit id), _, by have := run_endLoop (P := P) hl (by rw [hrc]; simp); rw [hrc] at this ⊢; exact this, wpIn_exit (hq _ _ (hrest _ _ (Nat.le_refl _) hM ((World.putObj_heap_other (by omega)).trans hk)))⟩
set_option maxHeartbeats 1000000 in
theorem wpIn_range_ownB {α : Type} {n : Nat} {P : Program} {g : Operand} {ps : Array Tmp} {assign body : Code} {Q : Exit → Act → World → Prop} {a : Act} {w : World} (id : Nat)
    {gf : Nat} {lb : Array Value} (hg : a.eval g = .func (.func gf) #[] lb) (eg : ∀ args w, (callFunc gf args).run P w = .ok (.enter gf args) w)
    {encs : α → Array Value} {Kp : World → World → Prop} {S Sp : List α → Prop} {N : Nat} {w0 : World} (hseq : SeqOwn (n - 1) P gf lb encs Kp S Sp N w0)
    (hKt : ∀ {A B C : World}, Kp A B → Kp B C → Kp A C) (hKb : ∀ (W : World) (l : Nat) (o o' : Obj), w.heap.size ≤ l → W.heap[l]? = some o → o.isCells = false → o.isWalk = false → Kp W (W.putObj l o'))
    (hb0 : Below w0.heap.size w0 w) (hps : ∀ x, (encs x).size = ps.size)
    (I : List α → World → Prop) (Ix : Code → List α → World → Prop) (M : World → Prop) (hI : OwnFrom w.heap.size I) (hIx : ∀ c, OwnFrom w.heap.size (Ix c)) (h0 : I [] w)
    (hall : ∀ xs W, S xs → I xs W → M W) (hleft : ∀ c pre W, Sp pre → Ix c pre W → c = .exit id ∧ M W) (Ax : α → Act → World → Prop) (hAx : ∀ x a', OwnFrom w.heap.size (fun (_ : Unit) W => Ax x a' W))
    (hassign : ∀ (l : Nat) (pre : List α) (x : α) (W : World) (K : Act → World → Prop), I pre W → (∀ a' W', KeepsFrom w.heap.size W W' → Kp W W' → I pre W' → Ax x a' W' → K a' W') →
      assign.wpIn (Fence.wide.inRound l) (n - 1 - 1) P (Exit.then K (fun _ _ _ => False)) { tmps := (ps.zip (encs x)).foldl (fun t (p, v) => t.setIfInBounds p v) a.tmps, defers := [] } W)
    (hbody : ∀ (l : Nat) (pre : List α) (x : α) (a' : Act) (W : World), I pre W → Ax x a' W → pre.length < N → body.wpIn (Fence.wide.inRound l) (n - 1 - 1) P (ownPostG w.heap.size Kp I Ix (pre ++ [x]) W) a' W)
    (hq : ∀ a W, Q .normal a W → Q (.exit id) a W)
    (hrest : ∀ (D : Nat) (W : World), w.heap.size ≤ D → M W → NoCalls W D → Q .normal { a with defers := { target := .collected D, args := #[] } :: a.defers } W) :
    (Code.rangeFunc g ps assign body).wpIn Fence.wide n P Q a w := by
  refine wpIn_rangeFunc fun fn hfn => ?_
  obtain ⟨rc, hrc⟩ : ∃ rc : LoopState → Option Code → Loop, rc = fun st pe => { state := st, pending := pe, fn, tmps := a.tmps, params := ps, assign, body, defers := w.heap.size } := ⟨_, rfl⟩
  obtain ⟨V, hV⟩ : ∃ V, (w.alloc (.deferred (some []))).alloc (.loop (rc .ready none)) = V := ⟨_, rfl⟩
  have zV : V.heap.size = w.heap.size + 1 + 1 := by rw [← hV]; simp
  have lr : V.heap[w.heap.size + 1]? = some (.loop (rc .ready none)) := by rw [← hV]; have := World.alloc_heap_new (w.alloc (.deferred (some []))) (.loop (rc .ready none)); rwa [World.size_alloc] at this
  have ld : V.heap[w.heap.size]? = some (.deferred (some [])) := by rw [← hV]; exact (Below.heap_alloc _ _ _ (by simp)).trans (World.alloc_heap_new w _)
  have hIV : I [] V := by rw [← hV]; exact hI.alloc _ (hI.alloc _ h0)
  have hbV : Below w0.heap.size w0 V := by rw [← hV]; exact hb0.trans ((((Below.refl _ w).alloc (Nat.le_refl _) _).alloc (by simp) _).mono hb0.size)
  refine ⟨w.heap.size + 1, [{ target := .collected w.heap.size, args := #[] }], V, { target := .fn (.func gf) lb, args := #[.func (.yield (w.heap.size + 1)) #[] #[]] }, V, gf, #[.func (.yield (w.heap.size + 1)) #[] #[]] ++ lb, V, ?_, ?_, fun _ _ => trivial, ?_, fun h => (by cases h), ?_⟩
  · rw [← hV, hrc]; exact run_enterLoop_outer _ _ _ _ _
  · simp only [resolve, hg]; simp [go_sem]
  · simp [invoke, go_sem, eg]
  · have up : ∀ {X : World} {row : Option Nat}, (∀ r, row = some r → V.heap.size ≤ r ∧ ∃ o : Obj, X.heap[r]? = some o ∧ o.isCells = false) → ∀ r, row = some r → w.heap.size ≤ r ∧ ∃ o : Obj, X.heap[r]? = some o ∧ o.isCells = false :=
      fun hr r e => ⟨by have := (hr r e).1; omega, (hr r e).2⟩
    refine (hseq (w.heap.size + 1) (fun pre W => I pre W ∧ W.heap[w.heap.size + 1]? = some (.loop (rc .ready none)) ∧ W.heap[w.heap.size]? = some (.deferred (some [])))
      (fun pre W => ∃ c, Ix c pre W ∧ W.heap[w.heap.size + 1]? = some (.loop (rc .done (some c))) ∧ W.heap[w.heap.size]? = some (.deferred (some []))) V hbV
      (fun s X Y row hs hg' hr => ⟨hI s X Y row hs.1 hg' (up hr), grown_obj hs.2.1 hg' hr (by omega), grown_obj hs.2.2 hg' hr (by omega)⟩)
      (fun s X Y row hs hg' hr => by
        obtain ⟨c, h1, h2, h3⟩ := hs
        exact ⟨c, hIx c s X Y row h1 hg' (up hr), grown_obj h2 hg' hr (by omega), grown_obj h3 hg' hr (by omega)⟩) ?_ ⟨hIV, lr, ld⟩).mono ?_
    · rintro pre x X ⟨hi, hl, hd⟩ hlen
      have hy := run_yield (P := P) (args := encs x) hl (by rw [hrc]; exact hps x)
      rw [hrc] at hy
      refine ⟨fn, _, assign, body, hy, roundIn_of_wpIn hfn (hassign _ pre x X _ hi (fun a' X' hkf hkp hi' hax => ⟨_, run_beginRound (hkf.same _ _ (by omega) hl rfl) (by rw [hrc]), ?_⟩))⟩
      have hlX := hkf.same _ _ (by omega) hl rfl
      have hdX := hkf.same _ _ (by omega) hd rfl
      have hlt : w.heap.size + 1 < X'.heap.size := (Array.getElem?_eq_some_iff.1 hlX).1
      obtain ⟨Y, hY⟩ : ∃ Y, X'.putObj (w.heap.size + 1) (.loop { rc .ready none with state := .busy }) = Y := ⟨_, rfl⟩
      rw [hY]
      have yl : Y.heap[w.heap.size + 1]? = some (.loop { rc .ready none with state := .busy }) := by rw [← hY]; exact World.putObj_heap_same hlt
      have yd : Y.heap[w.heap.size]? = some (.deferred (some [])) := by rw [← hY]; exact (World.putObj_heap_other (by omega)).trans hdX
      have yi : I pre Y := by rw [← hY]; exact hI.putObj _ hi' (by omega) hlX rfl
      have yk : Kp X' Y := by rw [← hY]; exact hKb _ _ _ _ (by omega) hlX rfl rfl
      have ys : Y.heap.size = X'.heap.size := by rw [← hY]; simp [World.putObj]
      have yx : Ax x a' Y := by rw [← hY]; exact (hAx x a').putObj (s := ()) _ hax (by omega) hlX rfl
      refine wpIn_mono (hbody _ pre x a' Y yi yx hlen) ?_
      have fin : ∀ (jump : Option Code) (Z : World), KeepsFrom w.heap.size Y Z →
          (Instr.endRound (w.heap.size + 1) jump).run P Z = .ok (.bool jump.isNone) (Z.putObj (w.heap.size + 1) (.loop (rc (if jump.isNone then .ready else .done) jump))) ∧
          Z.heap[w.heap.size + 1]? = some (.loop { rc .ready none with state := .busy }) ∧
          (Z.putObj (w.heap.size + 1) (.loop (rc (if jump.isNone then .ready else .done) jump))).heap[w.heap.size + 1]? = some (.loop (rc (if jump.isNone then .ready else .done) jump)) ∧
          (Z.putObj (w.heap.size + 1) (.loop (rc (if jump.isNone then .ready else .done) jump))).heap[w.heap.size]? = some (.deferred (some [])) ∧
          KeepsFrom V.heap.size X (Z.putObj (w.heap.size + 1) (.loop (rc (if jump.isNone then .ready else .done) jump))) := fun jump Z hk => by
        have zl := hk.same _ _ (by omega) yl rfl
        have := run_endRound (P := P) jump zl
        rw [hrc] at this ⊢
        refine ⟨this, by rw [hrc] at zl; exact zl, World.putObj_heap_same (Array.getElem?_eq_some_iff.1 zl).1, (World.putObj_heap_other (by omega)).trans (hk.same _ _ (Nat.le_refl _) yd rfl), ?_, fun k o hk1 hk2 hk3 => ?_⟩
        · have := hk.size; have := hkf.size; simp [World.putObj]; omega
        · refine (World.putObj_heap_other (by omega)).trans (hk.same k o (by omega) ?_ hk3)
          rw [← hY]
          exact (World.putObj_heap_other (by omega)).trans (hkf.same k o (by omega) hk2 hk3)
      rintro e a3 Z hp
      cases e with
      | normal =>
        obtain ⟨hk3, hkp3, hi3⟩ := hp
        obtain ⟨hr, hl3, hl4, hk4, hkf⟩ := fin none Z hk3
        exact ⟨_, _, hr, hkf, .inl ⟨rfl, ⟨hI.putObj _ hi3 (by omega) hl3 rfl, hl4, hk4⟩, hKt (hKt (hKt hkp yk) hkp3) (hKb _ _ _ _ (by omega) hl3 rfl rfl)⟩⟩
      | ret =>
        obtain ⟨hk3, hi3⟩ := hp
        obtain ⟨hr, hl3, hl4, hk4, hkf⟩ := fin (some .ret) Z hk3
        exact ⟨_, _, hr, hkf, .inr ⟨rfl, .ret, (hIx _).putObj _ hi3 (by omega) hl3 rfl, hl4, hk4⟩⟩
      | exit id' =>
        obtain ⟨hk3, hi3⟩ := hp
        obtain ⟨hr, hl3, hl4, hk4, hkf⟩ := fin (some (.exit id')) Z hk3
        exact ⟨_, _, hr, hkf, .inr ⟨rfl, .exit id', (hIx _).putObj _ hi3 (by omega) hl3 rfl, hl4, hk4⟩⟩
      | goto t =>
        obtain ⟨hk3, hi3⟩ := hp
        obtain ⟨hr, hl3, hl4, hk4, hkf⟩ := fin (some (.goto t)) Z hk3
        exact ⟨_, _, hr, hkf, .inr ⟨rfl, .goto t, (hIx _).putObj _ hi3 (by omega) hl3 rfl, hl4, hk4⟩⟩
      | panic ch => exact hp.elim
      | outgrown => exact hp.elim
    · rintro e Z ⟨⟨v, rfl⟩, (⟨xs, hS, hi, hl, hk⟩ | ⟨pre, hSp, c, hi, hl, hk⟩)⟩
      · exact ⟨none, _, by have := run_endLoop (P := P) hl (by rw [hrc]; simp); rw [hrc] at this; exact this, hrest _ _ (Nat.le_refl _) (hall xs _ hS (hI.putObj _ hi (by omega) hl rfl)) ((World.putObj_heap_other (by omega)).trans hk)⟩
      · have hix := (hIx c).putObj (.loop { rc .done (some c) with state := .exhausted }) hi (by omega) hl rfl
        obtain ⟨rfl, hM⟩ := hleft c pre _ hSp hix
        exact ⟨some (.exit id), _, by have := run_endLoop (P := P) hl (by rw [hrc]; simp); rw [hrc] at this ⊢; exact this, wpIn_exit (hq _ _ (hrest _ _ (Nat.le_refl _) hM ((World.putObj_heap_other (by omega)).trans hk)))⟩
theorem OwnFrom.up {β : Type} {B B' : Nat} {I : β → World → Prop} (h : OwnFrom B I) (hB : B ≤ B') : OwnFrom B' I := fun s X Y row hs hg hr => h s X Y row hs hg (fun r e => ⟨by have := (hr r e).1; omega, (hr r e).2⟩)
theorem KeepsFrom.up {B B' : Nat} {V V' : World} (h : KeepsFrom B V V') (hB : B ≤ B') : KeepsFrom B' V V' := ⟨h.size, fun k o hk => h.same k o (by omega)⟩
/-- But these blocks, cells are as they were. -/
structure KeptC (S : Nat → Prop) (W W' : World) : Prop where
  size : W.heap.size ≤ W'.heap.size
  kept : ∀ (k : Nat) (t : TypeId) (cs : Array Value), Has W k t cs → ¬ S k → Has W' k t cs
theorem KeptC.refl (S : Nat → Prop) (W : World) : KeptC S W W := ⟨Nat.le_refl _, fun _ _ _ h _ => h⟩
theorem KeptC.trans {S : Nat → Prop} {A B C : World} (h : KeptC S A B) (k : KeptC S B C) : KeptC S A C := ⟨Nat.le_trans h.size k.size, fun j t cs h1 h2 => k.kept j t cs (h.kept j t cs h1 h2) h2⟩
theorem KeptC.below {S : Nat → Prop} {A B : World} (h : Below A.heap.size A B) : KeptC S A B := ⟨h.size, fun _ _ _ h1 _ => h1.below h h1.lt⟩
theorem KeptC.setCell {S : Nat → Prop} {A B : World} (h : KeptC S A B) {k : Nat} (hp : S k) (i : Nat) (u : Value) : KeptC S A (B.setCell ⟨k, i, none⟩ u) :=
  h.trans ⟨by simp [World.setCell], fun j t cs h1 h2 => h1.other (fun e => h2 (e ▸ hp)) u⟩
theorem KeptC.putObj {S : Nat → Prop} (W : World) (l : Nat) (o o' : Obj) (h : W.heap[l]? = some o) (hc : o.isCells = false) : KeptC S W (W.putObj l o') := ⟨by simp [World.putObj], fun k t cs h1 _ => by
  refine h1.put_obj o' (fun e => ?_)
  subst e
  have h1' : W.heap[k]? = some (.cells cs t (0, 0)) := h1
  rw [h1'] at h
  rw [← Option.some.inj h] at hc
  cases hc⟩
end Go.Proofs.YtabgpnieekcdhaaDoor
