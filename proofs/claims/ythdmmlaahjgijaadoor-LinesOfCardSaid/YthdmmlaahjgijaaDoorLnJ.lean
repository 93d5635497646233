import Derived.Test.YthdmmlaahjgijaaDoorLnI
import Derived.Test.YthdmmlaahjgijaaDoorJ
import Derived.Test.YthdmmlaahjgijaaDoorP
namespace Go.Proofs.YthdmmlaahjgijaaDoor
open Go.RowKit Go.Shelf
attribute [local go_sem] Oper.semAt_some
attribute [local go_sem] wide_fn wide_depth wide_round

/-! ## An iterator that writes a splitter, its decoder and rows of bytes between its rounds -/
/-- What such an iterator may have done: below B nothing but Ch; from B on only splitters, decoders and rows of bytes, and what is no cells. -/
structure Turn (B : Nat) (Ch : Nat → Prop) (a b : World) : Prop where
  os : b.os = a.os
  tape : b.tape = a.tape
  output : b.output = a.output
  size : a.heap.size ≤ b.heap.size
  low : ∀ k, k < B → k < a.heap.size → ¬ Ch k → b.heap[k]? = a.heap[k]?
  high : ∀ k o, a.heap[k]? = some o → (k < B ∨ o.isCells = true) → (∀ cs fr, o ≠ .cells cs 5 fr) → (∀ cs fr, o ≠ .cells cs 90 fr) → (∀ cs fr, o ≠ .cells cs 57 fr) → b.heap[k]? = some o
section
variable {B : Nat} {Ch : Nat → Prop} {a b c : World}
theorem Turn.refl (B : Nat) (Ch : Nat → Prop) (a : World) : Turn B Ch a a := ⟨rfl, rfl, rfl, Nat.le_refl _, fun _ _ _ _ => rfl, fun _ _ h _ _ _ _ => h⟩
theorem Turn.trans (h : Turn B Ch a b) (k : Turn B Ch b c) : Turn B Ch a c :=
  ⟨k.os.trans h.os, k.tape.trans h.tape, k.output.trans h.output, Nat.le_trans h.size k.size, fun i hi hl hn => (k.low i hi (Nat.lt_of_lt_of_le hl h.size) hn).trans (h.low i hi hl hn),
    fun i o ho hB h1 h2 h3 => k.high i o (h.high i o ho hB h1 h2 h3) hB h1 h2 h3⟩
theorem Turn.of_below (h : Below a.heap.size a b) : Turn B Ch a b := ⟨h.os, h.tape, h.output, h.size, fun k _ hl _ => h.block k hl, fun k _ ho _ _ _ _ => (h.block k (Array.getElem?_eq_some_iff.1 ho).1).trans ho⟩
theorem Turn.alloc (B : Nat) (Ch : Nat → Prop) (a : World) (o : Obj) : Turn B Ch a (a.alloc o) := .of_below ((Below.refl _ _).alloc (Nat.le_refl _) _)
theorem Turn.drewN (h : Turn B Ch a b) (q : Nat) : Turn B Ch a (b.drewN q) := ⟨h.os, h.tape, h.output, h.size, h.low, h.high⟩
theorem Turn.putObj {l : Nat} {o : Obj} (o' : Obj) (hB : B ≤ l) (hl : a.heap[l]? = some o) (ho : o.isCells = false) : Turn B Ch a (a.putObj l o') :=
  ⟨rfl, rfl, rfl, by simp [World.putObj], fun k hk _ _ => World.putObj_heap_other (by omega), fun k o2 h2 hc _ _ _ => by
    refine (World.putObj_heap_other (fun e => ?_)).trans h2
    subst e
    rw [hl] at h2
    obtain rfl := Option.some.inj h2
    rcases hc with hc | hc
    · omega
    · rw [ho] at hc; cases hc⟩
theorem Turn.down {B' : Nat} (h : Turn B' Ch a b) (hB : B ≤ B') : Turn B Ch a b := ⟨h.os, h.tape, h.output, h.size, fun k hk => h.low k (by omega), fun k o ho hc => h.high k o ho (hc.imp (fun h => by omega) id)⟩
theorem Turn.mono {Ch' : Nat → Prop} (h : Turn B Ch a b) (hC : ∀ k, k < B → Ch k → Ch' k) : Turn B Ch' a b := ⟨h.os, h.tape, h.output, h.size, fun k hk hl hn => h.low k hk hl (fun h => hn (hC k hk h)), h.high⟩
theorem Turn.obj {k : Nat} {o : Obj} (h : Turn B Ch a b) (ho : a.heap[k]? = some o) (hc : o.isCells = false) (hB : k < B) : b.heap[k]? = some o :=
  h.high k o ho (.inl hB) (fun _ _ e => by subst e; cases hc) (fun _ _ e => by subst e; cases hc) (fun _ _ e => by subst e; cases hc)
theorem Turn.cells {k : Nat} {cs : Array Value} {t : TypeId} {fr : Nat × Nat} (h : Turn B Ch a b) (ho : a.heap[k]? = some (.cells cs t fr)) (ht : t ≠ 5 ∧ t ≠ 90 ∧ t ≠ 57) : b.heap[k]? = some (.cells cs t fr) :=
  h.high k _ ho (.inr rfl) (fun _ _ e => ht.1 (by injection e)) (fun _ _ e => ht.2.1 (by injection e)) (fun _ _ e => ht.2.2 (by injection e))
theorem Turn.has {k : Nat} {cs : Array Value} {t : TypeId} (h : Turn B Ch a b) (ho : Has a k t cs) (ht : t ≠ 5 ∧ t ≠ 90 ∧ t ≠ 57) : Has b k t cs := h.cells ho ht
theorem Turn.chg {S : Nat → Prop} {w : World} (h : Turn B Ch a b) (hw : Chg S w a) (hB : w.heap.size ≤ B) (hC : ∀ k, k < w.heap.size → Ch k → S k) : Chg S w b :=
  ⟨h.os.trans hw.os, h.tape.trans hw.tape, h.output.trans hw.output, Nat.le_trans hw.size h.size, fun k hk hn => (h.low k (by omega) (Nat.lt_of_lt_of_le hk hw.size) (fun hc => hn (hC k hk hc))).trans (hw.block k hk hn)⟩
/-- Out of what a call changed: only splitters, decoders and rows of bytes. -/
theorem Turn.of_chg {S : Nat → Prop} (h : Chg S a b) (hS : ∀ k, S k → k < a.heap.size → (Ch k ∨ B ≤ k) ∧ ∃ cs t fr, a.heap[k]? = some (.cells cs t fr) ∧ (t = 5 ∨ t = 90 ∨ t = 57)) : Turn B Ch a b :=
  ⟨h.os, h.tape, h.output, h.size, fun k hk hl hn => h.block k hl (fun hs => by
    rcases (hS k hs hl).1 with h1 | h1
    · exact hn h1
    · omega), fun k o ho _ h1 h2 h3 => by
    have hl := (Array.getElem?_eq_some_iff.1 ho).1
    refine (h.block k hl (fun hs => ?_)).trans ho
    obtain ⟨_, cs, t, fr, he, ht⟩ := hS k hs hl
    rw [ho] at he
    obtain rfl := Option.some.inj he
    rcases ht with rfl | rfl | rfl
    · exact h1 _ _ rfl
    · exact h2 _ _ rfl
    · exact h3 _ _ rfl⟩
end
/-- What the caller's round must leave alone: all below n0 but Wr, and from n0 on all cells but rows of lines. -/
structure KeepL (n0 : Nat) (Wr : Nat → Prop) (W W' : World) : Prop where
  size : W.heap.size ≤ W'.heap.size
  low : ∀ k, k < n0 → k < W.heap.size → ¬ Wr k → W'.heap[k]? = W.heap[k]?
  high : ∀ k cs t fr, W.heap[k]? = some (.cells cs t fr) → t ≠ 70 → ¬ Wr k → W'.heap[k]? = some (.cells cs t fr)
section
variable {n0 : Nat} {Wr : Nat → Prop} {A B C : World}
theorem KeepL.refl (n0 : Nat) (Wr : Nat → Prop) (W : World) : KeepL n0 Wr W W := ⟨Nat.le_refl _, fun _ _ _ _ => rfl, fun _ _ _ _ h _ _ => h⟩
theorem KeepL.trans (h : KeepL n0 Wr A B) (k : KeepL n0 Wr B C) : KeepL n0 Wr A C :=
  ⟨Nat.le_trans h.size k.size, fun i hi hl hn => (k.low i hi (Nat.lt_of_lt_of_le hl h.size) hn).trans (h.low i hi hl hn), fun i cs t fr h1 h2 h3 => k.high i cs t fr (h.high i cs t fr h1 h2 h3) h2 h3⟩
theorem KeepL.below (h : Below A.heap.size A B) : KeepL n0 Wr A B := ⟨h.size, fun k _ hl _ => h.block k hl, fun k _ _ _ h1 _ _ => (h.block k (Array.getElem?_eq_some_iff.1 h1).1).trans h1⟩
theorem KeepL.setCell (h : KeepL n0 Wr A B) {p : Addr} (hp : Wr p.block) (u : Value) : KeepL n0 Wr A (B.setCell p u) :=
  h.trans ⟨by simp [World.setCell], fun k _ _ h3 => Below.heap_setCell B p u k (fun e => h3 (e ▸ hp)), fun k _ _ _ h1 _ h3 => (Below.heap_setCell B p u k (fun e => h3 (e ▸ hp))).trans h1⟩
theorem KeepL.putObj (W : World) (l : Nat) (o o' : Obj) (hn : n0 ≤ l) (h : W.heap[l]? = some o) (hc : o.isCells = false) : KeepL n0 Wr W (W.putObj l o') :=
  ⟨by simp [World.putObj], fun k hk _ _ => World.putObj_heap_other (by omega), fun k cs t fr h1 _ _ => by
    refine (World.putObj_heap_other (fun e => ?_)).trans h1
    subst e
    rw [h] at h1
    rw [Option.some.inj h1] at hc
    cases hc⟩
theorem KeepL.has {k : Nat} {t : TypeId} {cs : Array Value} (h : KeepL n0 Wr A B) (ht : t ≠ 70) (hk : ¬ Wr k) (hh : Has A k t cs) : Has B k t cs := h.high k cs t _ hh ht hk
theorem KeepL.grown (h : KeepL n0 Wr A B) {row : Option Nat} (hg : B.grownBy C row) (hr : ∀ g, row = some g → n0 ≤ g ∧ ∃ cs, Has B g 70 cs) : KeepL n0 Wr A C :=
  h.trans ⟨hg.size, fun k hk hl _ => hg.block k hl (fun e => by have := (hr k e.symm).1; omega), fun k cs t fr h1 h2 _ => by
    refine (hg.block k (Array.getElem?_eq_some_iff.1 h1).1 (fun e => ?_)).trans h1
    obtain ⟨_, cs', hh⟩ := hr k e.symm
    have hh' : B.heap[k]? = some (.cells cs' 70 (0, 0)) := hh
    rw [hh'] at h1
    injection h1 with h1
    injection h1 with _ h1 _
    exact h2 h1.symm⟩
end
/-- The contract of such an iterator; behind all of it Fin holds. -/
def SeqTurn {α : Type} (n : Nat) (P : Program) (gf : Nat) (lb : Array Value) (encs : α → Array Value) (Kp : World → World → Prop) (Ch : Nat → Prop) (S Sp : List α → Prop) (Fin : World → Prop) (N : Nat) (w : World) : Prop :=
  ∀ (l : Nat) (J Jx : List α → World → Prop) (W : World), Below w.heap.size w W → (∀ pre X Y, J pre X → Turn W.heap.size Ch X Y → J pre Y) → (∀ pre X Y, Jx pre X → Turn W.heap.size Ch X Y → Jx pre Y) →
    (∀ pre x V, J pre V → pre.length < N → YieldAt Fence.wide (n - 1) P l (encs x) V fun e V' => KeepsFrom W.heap.size V V' ∧
      ((e = .returned (.bool true) ∧ J (pre ++ [x]) V' ∧ Kp V V') ∨ (e = .returned (.bool false) ∧ Jx (pre ++ [x]) V'))) → J [] W →
    CallsIn Fence.wide n P gf (#[.func (.yield l) #[] #[]] ++ lb) W fun e V => (∃ v, e = .returned v) ∧ ((∃ xs, S xs ∧ J xs V ∧ Fin V) ∨ (∃ pre, Sp pre ∧ Jx pre V))
set_option maxHeartbeats 1000000 in
theorem wpIn_range_turn {α : Type} {n : Nat} {P : Program} {g : Operand} {ps : Array Tmp} {assign body : Code} {Q : Exit → Act → World → Prop} {a : Act} {w : World} (id : Nat)
    {gf : Nat} {lb : Array Value} (hg : a.eval g = .func (.func gf) #[] lb) (eg : ∀ args w, (callFunc gf args).run P w = .ok (.enter gf args) w)
    {encs : α → Array Value} {Kp : World → World → Prop} {Ch : Nat → Prop} {S Sp : List α → Prop} {Fin : World → Prop} {N : Nat} {w0 : World} (hseq : SeqTurn (n - 1) P gf lb encs Kp Ch S Sp Fin N w0)
    (hKt : ∀ {A B C : World}, Kp A B → Kp B C → Kp A C) (hKb : ∀ (W : World) (l : Nat) (o o' : Obj), w.heap.size ≤ l → W.heap[l]? = some o → o.isCells = false → o.isWalk = false → Kp W (W.putObj l o'))
    (hb0 : Below w0.heap.size w0 w) (hps : ∀ x, (encs x).size = ps.size)
    (I : List α → World → Prop) (Ix : Code → List α → World → Prop) (M : World → Prop) (hI : ∀ pre X Y, I pre X → Turn w.heap.size Ch X Y → I pre Y) (hIx : ∀ c pre X Y, Ix c pre X → Turn w.heap.size Ch X Y → Ix c pre Y) (hF : ∀ (W : World) (l : Nat) (o o' : Obj), Fin W → W.heap[l]? = some o → o.isCells = false → Fin (W.putObj l o')) (h0 : I [] w)
    (hall : ∀ xs W, S xs → I xs W → Fin W → M W) (hleft : ∀ c pre W, Sp pre → Ix c pre W → c = .exit id ∧ M W) (a₁ : α → Act)
    (hassign : ∀ (l : Nat) (x : α) (W : World) (K : Act → World → Prop), K (a₁ x) W →
      assign.wpIn (Fence.wide.inRound l) (n - 1 - 1) P (Exit.then K (fun _ _ _ => False)) { tmps := (ps.zip (encs x)).foldl (fun t (p, v) => t.setIfInBounds p v) a.tmps, defers := [] } W)
    (hbody : ∀ (l : Nat) (pre : List α) (x : α) (W : World), I pre W → pre.length < N → body.wpIn (Fence.wide.inRound l) (n - 1 - 1) P (ownPostG w.heap.size Kp I Ix (pre ++ [x]) W) (a₁ x) W)
    (hq : ∀ a W, Q .normal a W → Q (.exit id) a W)
    (hrest : ∀ (D : Nat) (W : World), w.heap.size ≤ D → M W → NoCalls W D → Q .normal { a with defers := { target := .collected D, args := #[] } :: a.defers } W) :
    (Code.rangeFunc g ps assign body).wpIn Fence.wide n P Q a w := by
  refine wpIn_rangeFunc fun fn hfn => ?_
  obtain ⟨rc, hrc⟩ : ∃ rc : LoopState → Option Code → Loop, rc = fun st pe => { state := st, pending := pe, fn, tmps := a.tmps, params := ps, assign, body, defers := w.heap.size } := ⟨_, rfl⟩
  obtain ⟨V, hV⟩ : ∃ V, (w.alloc (.deferred (some []))).alloc (.loop (rc .ready none)) = V := ⟨_, rfl⟩
  have zV : V.heap.size = w.heap.size + 1 + 1 := by rw [← hV]; simp
  have lr : V.heap[w.heap.size + 1]? = some (.loop (rc .ready none)) := by rw [← hV]; have := World.alloc_heap_new (w.alloc (.deferred (some []))) (.loop (rc .ready none)); rwa [World.size_alloc] at this
  have ld : V.heap[w.heap.size]? = some (.deferred (some [])) := by rw [← hV]; exact (Below.heap_alloc _ _ _ (by simp)).trans (World.alloc_heap_new w _)
  have hIV : I [] V := by rw [← hV]; exact hI _ _ _ h0 ((Turn.alloc _ _ _ _).trans (Turn.alloc _ _ _ _))
  have hbV : Below w0.heap.size w0 V := by rw [← hV]; exact hb0.trans ((((Below.refl _ w).alloc (Nat.le_refl _) _).alloc (by simp) _).mono hb0.size)
  refine ⟨w.heap.size + 1, [{ target := .collected w.heap.size, args := #[] }], V, { target := .fn (.func gf) lb, args := #[.func (.yield (w.heap.size + 1)) #[] #[]] }, V, gf, #[.func (.yield (w.heap.size + 1)) #[] #[]] ++ lb, V, ?_, ?_, fun _ _ => trivial, ?_, fun h => (by cases h), ?_⟩
  · rw [← hV, hrc]; exact run_enterLoop_outer _ _ _ _ _
  · simp only [resolve, hg]; simp [go_sem]
  · simp [invoke, go_sem, eg]
  · refine (hseq (w.heap.size + 1) (fun pre W => I pre W ∧ W.heap[w.heap.size + 1]? = some (.loop (rc .ready none)) ∧ W.heap[w.heap.size]? = some (.deferred (some [])))
      (fun pre W => ∃ c, Ix c pre W ∧ W.heap[w.heap.size + 1]? = some (.loop (rc .done (some c))) ∧ W.heap[w.heap.size]? = some (.deferred (some []))) V hbV
      (fun s X Y hs ht => ⟨hI s X Y hs.1 (ht.down (by omega)), ht.obj hs.2.1 rfl (by omega), ht.obj hs.2.2 rfl (by omega)⟩)
      (fun s X Y hs ht => by
        obtain ⟨c, h1, h2, h3⟩ := hs
        exact ⟨c, hIx c s X Y h1 (ht.down (by omega)), ht.obj h2 rfl (by omega), ht.obj h3 rfl (by omega)⟩) ?_ ⟨hIV, lr, ld⟩).mono ?_
    · rintro pre x X ⟨hi, hl, hd⟩ hlen
      have hy := run_yield (P := P) (args := encs x) hl (by rw [hrc]; exact hps x)
      rw [hrc] at hy
      refine ⟨fn, _, assign, body, hy, roundIn_of_wpIn hfn (hassign _ x X _ ⟨_, run_beginRound hl (by rw [hrc]), ?_⟩)⟩
      have hlt : w.heap.size + 1 < X.heap.size := (Array.getElem?_eq_some_iff.1 hl).1
      obtain ⟨Y, hY⟩ : ∃ Y, X.putObj (w.heap.size + 1) (.loop { rc .ready none with state := .busy }) = Y := ⟨_, rfl⟩
      rw [hY]
      have yl : Y.heap[w.heap.size + 1]? = some (.loop { rc .ready none with state := .busy }) := by rw [← hY]; exact World.putObj_heap_same hlt
      have yd : Y.heap[w.heap.size]? = some (.deferred (some [])) := by rw [← hY]; exact (World.putObj_heap_other (by omega)).trans hd
      have yi : I pre Y := by rw [← hY]; exact hI _ _ _ hi (Turn.putObj _ (by omega) hl rfl)
      have yk : Kp X Y := by rw [← hY]; exact hKb _ _ _ _ (by omega) hl rfl rfl
      have ys : Y.heap.size = X.heap.size := by rw [← hY]; simp [World.putObj]
      refine wpIn_mono (hbody _ pre x Y yi hlen) ?_
      have fin : ∀ (jump : Option Code) (Z : World), KeepsFrom w.heap.size Y Z →
          (Instr.endRound (w.heap.size + 1) jump).run P Z = .ok (.bool jump.isNone) (Z.putObj (w.heap.size + 1) (.loop (rc (if jump.isNone then .ready else .done) jump))) ∧
          Z.heap[w.heap.size + 1]? = some (.loop { rc .ready none with state := .busy }) ∧
          (Z.putObj (w.heap.size + 1) (.loop (rc (if jump.isNone then .ready else .done) jump))).heap[w.heap.size + 1]? = some (.loop (rc (if jump.isNone then .ready else .done) jump)) ∧
          (Z.putObj (w.heap.size + 1) (.loop (rc (if jump.isNone then .ready else .done) jump))).heap[w.heap.size]? = some (.deferred (some [])) ∧
          KeepsFrom V.heap.size X (Z.putObj (w.heap.size + 1) (.loop (rc (if jump.isNone then .ready else .done) jump))) := fun jump Z hk => by
        have zl := hk.same _ _ (by omega) yl rfl
        have := run_endRound (P := P) jump zl
        rw [hrc] at this ⊢
        refine ⟨this, by rw [hrc] at zl; exact zl, World.putObj_heap_same (Array.getElem?_eq_some_iff.1 zl).1, (World.putObj_heap_other (by omega)).trans (hk.same _ _ (Nat.le_refl _) yd rfl), ?_, fun k o hk1 hk2 hk3 => ?_⟩
        · have := hk.size; simp [World.putObj]; omega
        · refine (World.putObj_heap_other (by omega)).trans (hk.same k o (by omega) ?_ hk3)
          rw [← hY]
          exact (World.putObj_heap_other (by omega)).trans hk2
      rintro e a3 Z hp
      cases e with
      | normal =>
        obtain ⟨hk3, hkp3, hi3⟩ := hp
        obtain ⟨hr, hl3, hl4, hk4, hkf⟩ := fin none Z hk3
        exact ⟨_, _, hr, hkf, .inl ⟨rfl, ⟨hI _ _ _ hi3 (Turn.putObj _ (by omega) hl3 rfl), hl4, hk4⟩, hKt (hKt yk hkp3) (hKb _ _ _ _ (by omega) hl3 rfl rfl)⟩⟩
      | ret =>
        obtain ⟨hk3, hi3⟩ := hp
        obtain ⟨hr, hl3, hl4, hk4, hkf⟩ := fin (some .ret) Z hk3
        exact ⟨_, _, hr, hkf, .inr ⟨rfl, .ret, hIx _ _ _ _ hi3 (Turn.putObj _ (by omega) hl3 rfl), hl4, hk4⟩⟩
      | exit id' =>
        obtain ⟨hk3, hi3⟩ := hp
        obtain ⟨hr, hl3, hl4, hk4, hkf⟩ := fin (some (.exit id')) Z hk3
        exact ⟨_, _, hr, hkf, .inr ⟨rfl, .exit id', hIx _ _ _ _ hi3 (Turn.putObj _ (by omega) hl3 rfl), hl4, hk4⟩⟩
      | goto t =>
        obtain ⟨hk3, hi3⟩ := hp
        obtain ⟨hr, hl3, hl4, hk4, hkf⟩ := fin (some (.goto t)) Z hk3
        exact ⟨_, _, hr, hkf, .inr ⟨rfl, .goto t, hIx _ _ _ _ hi3 (Turn.putObj _ (by omega) hl3 rfl), hl4, hk4⟩⟩
      | panic ch => exact hp.elim
      | outgrown => exact hp.elim
    · rintro e Z ⟨⟨v, rfl⟩, (⟨xs, hS, ⟨hi, hl, hk⟩, hf⟩ | ⟨pre, hSp, c, hi, hl, hk⟩)⟩
      · exact ⟨none, _, by have := run_endLoop (P := P) hl (by rw [hrc]; simp); rw [hrc] at this; exact this, hrest _ _ (Nat.le_refl _) (hall xs _ hS (hI _ _ _ hi (Turn.putObj _ (by omega) hl rfl)) (hF _ _ _ _ hf hl rfl)) ((World.putObj_heap_other (by omega)).trans hk)⟩
      · have hix := hIx c _ _ _ hi (Turn.putObj (.loop { rc .done (some c) with state := .exhausted }) (by omega) hl rfl)
        obtain ⟨rfl, hM⟩ := hleft c pre _ hSp hix
        exact ⟨some (.exit id), _, by have := run_endLoop (P := P) hl (by rw [hrc]; simp); rw [hrc] at this ⊢; exact this, wpIn_exit (hq _ _ (hrest _ _ (Nat.le_refl _) hM ((World.putObj_heap_other (by omega)).trans hk)))⟩
end Go.Proofs.YthdmmlaahjgijaaDoor
namespace Go.Proofs.YthdmmlaahjgijaaDoor
open Go.RowKit Go.Shelf
attribute [local go_sem] Oper.semAt_some
attribute [local go_sem] wide_fn wide_depth wide_round

/-! ## The same where the round's variable lies in a box -/
set_option maxHeartbeats 1000000 in
theorem wpIn_range_turnH {α : Type} {n : Nat} {P : Program} {g : Operand} {ps : Array Tmp} {assign body : Code} {Q : Exit → Act → World → Prop} {a : Act} {w : World} (id : Nat)
    {gf : Nat} {lb : Array Value} (hg : a.eval g = .func (.func gf) #[] lb) (eg : ∀ args w, (callFunc gf args).run P w = .ok (.enter gf args) w)
    {encs : α → Array Value} {Kp : World → World → Prop} {Ch : Nat → Prop} {S Sp : List α → Prop} {Fin : World → Prop} {N : Nat} {w0 : World} (hseq : SeqTurn (n - 1) P gf lb encs Kp Ch S Sp Fin N w0)
    (hKt : ∀ {A B C : World}, Kp A B → Kp B C → Kp A C) (hKb : ∀ (W : World) (l : Nat) (o o' : Obj), w.heap.size ≤ l → W.heap[l]? = some o → o.isCells = false → o.isWalk = false → Kp W (W.putObj l o'))
    (hb0 : Below w0.heap.size w0 w) (hps : ∀ x, (encs x).size = ps.size)
    (I : List α → World → Prop) (Ix : Code → List α → World → Prop) (M : World → Prop) (hI : ∀ pre X Y, I pre X → Turn w.heap.size Ch X Y → I pre Y) (hIx : ∀ c pre X Y, Ix c pre X → Turn w.heap.size Ch X Y → Ix c pre Y) (hF : ∀ (W : World) (l : Nat) (o o' : Obj), Fin W → W.heap[l]? = some o → o.isCells = false → Fin (W.putObj l o')) (h0 : I [] w)
    (hall : ∀ xs W, S xs → I xs W → Fin W → M W) (hleft : ∀ c pre W, Sp pre → Ix c pre W → c = .exit id ∧ M W) (Ax : α → Act → World → Prop) (hAx : ∀ x a' (W : World) (l : Nat) (o o' : Obj), Ax x a' W → W.heap[l]? = some o → o.isCells = false → Ax x a' (W.putObj l o'))
    (hassign : ∀ (l : Nat) (pre : List α) (x : α) (W : World) (K : Act → World → Prop), I pre W → (∀ a' W', KeepsFrom w.heap.size W W' → Kp W W' → I pre W' → Ax x a' W' → K a' W') →
      assign.wpIn (Fence.wide.inRound l) (n - 1 - 1) P (Exit.then K (fun _ _ _ => False)) { tmps := (ps.zip (encs x)).foldl (fun t (p, v) => t.setIfInBounds p v) a.tmps, defers := [] } W)
    (hbody : ∀ (l : Nat) (pre : List α) (x : α) (a' : Act) (W : World), w.heap.size ≤ l → (∃ r, W.heap[l]? = some (.loop r)) → I pre W → Ax x a' W → pre.length < N → body.wpIn (Fence.wide.inRound l) (n - 1 - 1) P (ownPostG w.heap.size Kp I Ix (pre ++ [x]) W) a' W)
    (hq : ∀ a W, Q .normal a W → Q (.exit id) a W)
    (hrest : ∀ (D : Nat) (W : World), w.heap.size ≤ D → M W → NoCalls W D → Q .normal { a with defers := { target := .collected D, args := #[] } :: a.defers } W) :
    (Code.rangeFunc g ps assign body).wpIn Fence.wide n P Q a w := by
  refine wpIn_rangeFunc fun fn hfn => ?_
  obtain ⟨rc, hrc⟩ : ∃ rc : LoopState → Option Code → Loop, rc = fun st pe => { state := st, pending := pe, fn, tmps := a.tmps, params := ps, assign, body, defers := w.heap.size } := ⟨_, rfl⟩
  obtain ⟨V, hV⟩ : ∃ V, (w.alloc (.deferred (some []))).alloc (.loop (rc .ready none)) = V := ⟨_, rfl⟩
  have zV : V.heap.size = w.heap.size + 1 + 1 := by rw [← hV]; simp
  have lr : V.heap[w.heap.size + 1]? = some (.loop (rc .ready none)) := by rw [← hV]; have := World.alloc_heap_new (w.alloc (.deferred (some []))) (.loop (rc .ready none)); rwa [World.size_alloc] at this
  have ld : V.heap[w.heap.size]? = some (.deferred (some [])) := by rw [← hV]; exact (Below.heap_alloc _ _ _ (by simp)).trans (World.alloc_heap_new w _)
  have hIV : I [] V := by rw [← hV]; exact hI _ _ _ h0 ((Turn.alloc _ _ _ _).trans (Turn.alloc _ _ _ _))
  have hbV : Below w0.heap.size w0 V := by rw [← hV]; exact hb0.trans ((((Below.refl _ w).alloc (Nat.le_refl _) _).alloc (by simp) _).mono hb0.size)
  refine ⟨w.heap.size + 1, [{ target := .collected w.heap.size, args := #[] }], V, { target := .fn (.func gf) lb, args := #[.func (.yield (w.heap.size + 1)) #[] #[]] }, V, gf, #[.func (.yield (w.heap.size + 1)) #[] #[]] ++ lb, V, ?_, ?_, fun _ _ => trivial, ?_, fun h => (by cases h), ?_⟩
  · rw [← hV, hrc]; exact run_enterLoop_outer _ _ _ _ _
  · simp only [resolve, hg]; simp [go_sem]
  · simp [invoke, go_sem, eg]
  · refine (hseq (w.heap.size + 1) (fun pre W => I pre W ∧ W.heap[w.heap.size + 1]? = some (.loop (rc .ready none)) ∧ W.heap[w.heap.size]? = some (.deferred (some [])))
      (fun pre W => ∃ c, Ix c pre W ∧ W.heap[w.heap.size + 1]? = some (.loop (rc .done (some c))) ∧ W.heap[w.heap.size]? = some (.deferred (some []))) V hbV
      (fun s X Y hs ht => ⟨hI s X Y hs.1 (ht.down (by omega)), ht.obj hs.2.1 rfl (by omega), ht.obj hs.2.2 rfl (by omega)⟩)
      (fun s X Y hs ht => by
        obtain ⟨c, h1, h2, h3⟩ := hs
        exact ⟨c, hIx c s X Y h1 (ht.down (by omega)), ht.obj h2 rfl (by omega), ht.obj h3 rfl (by omega)⟩) ?_ ⟨hIV, lr, ld⟩).mono ?_
    · rintro pre x X0 ⟨hi0, hl0, hd0⟩ hlen
      have hy := run_yield (P := P) (args := encs x) hl0 (by rw [hrc]; exact hps x)
      rw [hrc] at hy
      refine ⟨fn, _, assign, body, hy, roundIn_of_wpIn hfn (hassign _ pre x X0 _ hi0 (fun a' X hkf0 hkp0 hi hax => ?_))⟩
      have hl := hkf0.same _ _ (by omega) hl0 rfl
      have hd := hkf0.same _ _ (Nat.le_refl _) hd0 rfl
      refine ⟨_, run_beginRound hl (by rw [hrc]), ?_⟩
      have hlt : w.heap.size + 1 < X.heap.size := (Array.getElem?_eq_some_iff.1 hl).1
      obtain ⟨Y, hY⟩ : ∃ Y, X.putObj (w.heap.size + 1) (.loop { rc .ready none with state := .busy }) = Y := ⟨_, rfl⟩
      rw [hY]
      have yl : Y.heap[w.heap.size + 1]? = some (.loop { rc .ready none with state := .busy }) := by rw [← hY]; exact World.putObj_heap_same hlt
      have yd : Y.heap[w.heap.size]? = some (.deferred (some [])) := by rw [← hY]; exact (World.putObj_heap_other (by omega)).trans hd
      have yi : I pre Y := by rw [← hY]; exact hI _ _ _ hi (Turn.putObj _ (by omega) hl rfl)
      have yk : Kp X Y := by rw [← hY]; exact hKb _ _ _ _ (by omega) hl rfl rfl
      have ys : Y.heap.size = X.heap.size := by rw [← hY]; simp [World.putObj]
      have ya : Ax x a' Y := by rw [← hY]; exact hAx _ _ _ _ _ _ hax hl rfl
      have kV : KeepsFrom V.heap.size X0 X := KeepsFrom.up hkf0 (by omega)
      refine wpIn_mono (hbody _ pre x a' Y (by omega) ⟨_, yl⟩ yi ya hlen) ?_
      have fin : ∀ (jump : Option Code) (Z : World), KeepsFrom w.heap.size Y Z →
          (Instr.endRound (w.heap.size + 1) jump).run P Z = .ok (.bool jump.isNone) (Z.putObj (w.heap.size + 1) (.loop (rc (if jump.isNone then .ready else .done) jump))) ∧
          Z.heap[w.heap.size + 1]? = some (.loop { rc .ready none with state := .busy }) ∧
          (Z.putObj (w.heap.size + 1) (.loop (rc (if jump.isNone then .ready else .done) jump))).heap[w.heap.size + 1]? = some (.loop (rc (if jump.isNone then .ready else .done) jump)) ∧
          (Z.putObj (w.heap.size + 1) (.loop (rc (if jump.isNone then .ready else .done) jump))).heap[w.heap.size]? = some (.deferred (some [])) ∧
          KeepsFrom V.heap.size X (Z.putObj (w.heap.size + 1) (.loop (rc (if jump.isNone then .ready else .done) jump))) := fun jump Z hk => by
        have zl := hk.same _ _ (by omega) yl rfl
        have := run_endRound (P := P) jump zl
        rw [hrc] at this ⊢
        refine ⟨this, by rw [hrc] at zl; exact zl, World.putObj_heap_same (Array.getElem?_eq_some_iff.1 zl).1, (World.putObj_heap_other (by omega)).trans (hk.same _ _ (Nat.le_refl _) yd rfl), ?_, fun k o hk1 hk2 hk3 => ?_⟩
        · have := hk.size; simp [World.putObj]; omega
        · refine (World.putObj_heap_other (by omega)).trans (hk.same k o (by omega) ?_ hk3)
          rw [← hY]
          exact (World.putObj_heap_other (by omega)).trans hk2
      rintro e a3 Z hp
      cases e with
      | normal =>
        obtain ⟨hk3, hkp3, hi3⟩ := hp
        obtain ⟨hr, hl3, hl4, hk4, hkf⟩ := fin none Z hk3
        exact ⟨_, _, hr, kV.trans hkf, .inl ⟨rfl, ⟨hI _ _ _ hi3 (Turn.putObj _ (by omega) hl3 rfl), hl4, hk4⟩, hKt (hKt (hKt hkp0 yk) hkp3) (hKb _ _ _ _ (by omega) hl3 rfl rfl)⟩⟩
      | ret =>
        obtain ⟨hk3, hi3⟩ := hp
        obtain ⟨hr, hl3, hl4, hk4, hkf⟩ := fin (some .ret) Z hk3
        exact ⟨_, _, hr, kV.trans hkf, .inr ⟨rfl, .ret, hIx _ _ _ _ hi3 (Turn.putObj _ (by omega) hl3 rfl), hl4, hk4⟩⟩
      | exit id' =>
        obtain ⟨hk3, hi3⟩ := hp
        obtain ⟨hr, hl3, hl4, hk4, hkf⟩ := fin (some (.exit id')) Z hk3
        exact ⟨_, _, hr, kV.trans hkf, .inr ⟨rfl, .exit id', hIx _ _ _ _ hi3 (Turn.putObj _ (by omega) hl3 rfl), hl4, hk4⟩⟩
      | goto t =>
        obtain ⟨hk3, hi3⟩ := hp
        obtain ⟨hr, hl3, hl4, hk4, hkf⟩ := fin (some (.goto t)) Z hk3
        exact ⟨_, _, hr, kV.trans hkf, .inr ⟨rfl, .goto t, hIx _ _ _ _ hi3 (Turn.putObj _ (by omega) hl3 rfl), hl4, hk4⟩⟩
      | panic ch => exact hp.elim
      | outgrown => exact hp.elim
    · rintro e Z ⟨⟨v, rfl⟩, (⟨xs, hS, ⟨hi, hl, hk⟩, hf⟩ | ⟨pre, hSp, c, hi, hl, hk⟩)⟩
      · exact ⟨none, _, by have := run_endLoop (P := P) hl (by rw [hrc]; simp); rw [hrc] at this; exact this, hrest _ _ (Nat.le_refl _) (hall xs _ hS (hI _ _ _ hi (Turn.putObj _ (by omega) hl rfl)) (hF _ _ _ _ hf hl rfl)) ((World.putObj_heap_other (by omega)).trans hk)⟩
      · have hix := hIx c _ _ _ hi (Turn.putObj (.loop { rc .done (some c) with state := .exhausted }) (by omega) hl rfl)
        obtain ⟨rfl, hM⟩ := hleft c pre _ hSp hix
        exact ⟨some (.exit id), _, by have := run_endLoop (P := P) hl (by rw [hrc]; simp); rw [hrc] at this ⊢; exact this, wpIn_exit (hq _ _ (hrest _ _ (Nat.le_refl _) hM ((World.putObj_heap_other (by omega)).trans hk)))⟩
end Go.Proofs.YthdmmlaahjgijaaDoor
