import Derived.Test.YtbmemkbfignlaaaGreatDoorPk1
import Derived.RangeFuncLeaves
import Derived.RangeFuncRecord
import Derived.RangeFuncSeq
import Derived.Scope
namespace Go.Proofs.YtbmemkbfignlaaaGreatDoor
open Go.RowKit

/-! ## A range over a function whose ways out meet -/

/-- A block in which the rounds' deferred calls would stand, with none. -/
def NoCalls (W : World) (D : Nat) : Prop := W.heap[D]? = some (.deferred (some []))
theorem NoCalls.lt {W : World} {D : Nat} (h : NoCalls W D) : D < W.heap.size := (Array.getElem?_eq_some_iff.1 h).1
theorem NoCalls.alloc {W : World} {D : Nat} (h : NoCalls W D) (o : Obj) : NoCalls (W.alloc o) D := (Below.heap_alloc W o D h.lt).trans h
theorem NoCalls.drewN {W : World} {D : Nat} (h : NoCalls W D) (q : Nat) : NoCalls (W.drewN q) D := h
theorem NoCalls.below {W W' : World} {D B : Nat} (h : NoCalls W D) (hb : Below B W W') (hD : D < B) : NoCalls W' D := (hb.block D hD).trans h
theorem NoCalls.ne {W : World} {D k : Nat} {t : TypeId} {cs : Array Value} (h : NoCalls W D) (hh : Has W k t cs) : D ≠ k := fun e => by
  subst e; unfold NoCalls Has at *; rw [h] at hh; cases hh
theorem NoCalls.set {W : World} {D k i : Nat} {t : TypeId} {cs : Array Value} (h : NoCalls W D) (hh : Has W k t cs) (u : Value) : NoCalls (W.setCell ⟨k, i, none⟩ u) D :=
  (Below.heap_setCell W ⟨k, i, none⟩ u D (h.ne hh)).trans h
theorem NoCalls.put {W : World} {D k : Nat} (h : NoCalls W D) (o : Obj) (hk : D ≠ k) : NoCalls (W.putObj k o) D := (World.putObj_heap_other hk).trans h
theorem NoCalls.from {β : Type} {B D : Nat} (hD : D < B) : OwnFrom B (fun (_ : β) W => NoCalls W D) := fun s X Y row hs hg hr =>
  (hg.block D (NoCalls.lt hs) (fun e => by have := (hr D e.symm).1; omega)).trans hs
theorem Has.put_obj {W : World} {k l : Nat} {t : TypeId} {cs : Array Value} (h : Has W k t cs) (o : Obj) (hl : k ≠ l) : Has (W.putObj l o) k t cs := (World.putObj_heap_other hl).trans h

/-- The way on behind a range: whether all was gone over, or a label left it, the same is known. -/
theorem wpIn_range_meets {α : Type} {F : Fence} {n : Nat} {P : Program} {g : Operand} {ps : Array Tmp} {assign body : Code} {Q : Exit → Act → World → Prop} {a : Act} {w : World}
    (id : Nat) (hro : F.round = none) (h1 : 1 ≤ n) {gf : Nat} {lb : Array Value} (hg : a.eval g = .func (.func gf) #[] lb) (hFg : F.fn gf) (eg : ∀ args w, (callFunc gf args).run P w = .ok (.enter gf args) w)
    {encs : α → Array Value} {Kp : World → World → Prop} {S Sp : List α → Prop} {N : Nat} {w0 : World} (hseq : SeqStopsK F (n - 1) P gf lb encs Kp S Sp N w0)
    (hKt : ∀ {A B C : World}, Kp A B → Kp B C → Kp A C) (hKb : ∀ (W : World) (l : Nat) (o o' : Obj), w.heap.size ≤ l → W.heap[l]? = some o → o.isCells = false → o.isWalk = false → Kp W (W.putObj l o')) (hb0 : Below w0.heap.size w0 w) (hps : ∀ x, (encs x).size = ps.size)
    (I : List α → World → Prop) (Ix : Code → List α → World → Prop) (M : World → Prop) (hI : OwnFrom w.heap.size I) (hIx : ∀ c, OwnFrom w.heap.size (Ix c)) (h0 : I [] w)
    (hall : ∀ xs W, S xs → I xs W → M W) (hleft : ∀ c pre W, Sp pre → Ix c pre W → c = .exit id ∧ M W)
    (a₁ : α → Act)
    (hassign : ∀ (l : Nat) (x : α) (W : World) (K : Act → World → Prop), K (a₁ x) W →
      assign.wpIn (F.inRound l) (n - 1 - 1) P (Exit.then K (fun _ _ _ => False)) { tmps := (ps.zip (encs x)).foldl (fun t (p, v) => t.setIfInBounds p v) a.tmps, defers := [] } W)
    (hbody : ∀ (l : Nat) (pre : List α) (x : α) (W : World), I pre W → pre.length < N → body.wpIn (F.inRound l) (n - 1 - 1) P (ownPostG w.heap.size Kp I Ix (pre ++ [x]) W) (a₁ x) W)
    (hq : ∀ a W, Q .normal a W → Q (.exit id) a W)
    (hrest : ∀ (D : Nat) (W : World), w.heap.size ≤ D → M W → NoCalls W D → Q .normal { a with defers := { target := .collected D, args := #[] } :: a.defers } W) :
    (Code.rangeFunc g ps assign body).wpIn F n P Q a w :=
  wpIn_rangeFunc_ownG hro h1 hg hFg eg hseq (fun h k => hKt h k) hKb hb0 hps I Ix hI hIx h0 a₁ hassign hbody
    (fun D xs W hD hS hI hk => hrest D W hD (hall xs W hS hI) hk)
    (fun D c pre W hD hS hI hk => by
      obtain ⟨rfl, hM⟩ := hleft c pre W hS hI
      exact wpIn_exit (hq _ _ (hrest D W hD hM hk)))
end Go.Proofs.YtbmemkbfignlaaaGreatDoor

namespace Go.Proofs.YtbmemkbfignlaaaGreatDoor
open Go.RowKit

/-! ## A range over a function whose rounds may give up (of no layer): a round that panics; walks in a frame whose function is known -/
section round
variable {F : Fence} {n : Nat} {P : Program}
/-- What is asked at a round's end; a panic, too. -/
def roundPostP (P : Program) (l : Nat) (R : Ending → World → Prop) : Exit → Act → World → Prop
  | .normal, _, w => ∃ v w', (Instr.endRound l none).run P w = .ok v w' ∧ R (.returned v) w'
  | .ret, _, w => ∃ v w', (Instr.endRound l (some .ret)).run P w = .ok v w' ∧ R (.returned v) w'
  | .exit id, _, w => ∃ v w', (Instr.endRound l (some (.exit id))).run P w = .ok v w' ∧ R (.returned v) w'
  | .goto t, _, w => ∃ v w', (Instr.endRound l (some (.goto t))).run P w = .ok v w' ∧ R (.returned v) w'
  | .panic ch, a, w => a.defers = [] ∧ R (.panicked ch) w
  | .outgrown, _, _ => False
theorem roundIn_of_wpInP {l : Nat} {f : FuncId} {tmps : Array Value} {assign body : Code} {w : World} {R : Ending → World → Prop} (hF : F.fn f) (hk : ∃ fn, P.funcs[f]? = some fn)
    (h : assign.wpIn (F.inRound l) n P (Exit.then (fun a₁ w₁ => ∃ w₂, (Instr.beginRound l).run P w₁ = .ok () w₂ ∧ body.wpIn (F.inRound l) n P (roundPostP P l R) a₁ w₂) (fun _ _ _ => False))
      { tmps := tmps, defers := [] } w) :
    RoundIn F n P l f tmps assign body w R := by
  refine ⟨hF, fun c cs hr => ?_⟩
  let b : Frame := { (default : Frame) with fn := f, kind := .normal, roundOf := some l }
  have hb0 : Frame.round l f tmps assign body .normal = b.atR { tmps := tmps, defers := [] } [.code assign, .beginRound, .code body] := by
    simp [Frame.round, Frame.atR, b]
  have hr' : (F.inRound l).room ((c :: cs).length + 1 + n) := hr
  have hF' : (F.inRound l).fn b.fn := hF
  obtain ⟨e, a₁, w₁, hq, harr⟩ := h b [.beginRound, .code body] (c :: cs) rfl hF' hr'
  rw [← hb0] at harr
  cases e with
  | normal =>
    obtain ⟨w₂, hbr, hbody⟩ := hq
    have s1 : StepsIn (Machine.fenced P (F.inRound l)) P (lone (b.atR a₁ [.beginRound, .code body]) (c :: cs) w₁) (lone (b.atR a₁ [.code body]) (c :: cs) w₂) :=
      .one (fenced_calm (fr := b.atR a₁ [.beginRound, .code body]) hF' hr' rfl) (stepR_beginRound rfl hbr)
    obtain ⟨e₂, a₂, w₃, hq₂, harr₂⟩ := hbody b [] (c :: cs) rfl hF' hr'
    cases e₂ with
    | normal =>
      obtain ⟨v, w₄, hend, hR⟩ := hq₂
      exact ⟨.returned v, w₄, hR, (StepsIn.trans harr s1).trans (StepsIn.trans harr₂ (.one (fenced_calm (fr := b.atR a₂ []) hF' hr' rfl) (stepR_round_end rfl rfl hend)))⟩
    | ret =>
      obtain ⟨v, w₄, hend, hR⟩ := hq₂
      obtain ⟨k₁, hs⟩ := harr₂.2 rfl
      exact ⟨.returned v, w₄, hR, (StepsIn.trans harr s1).trans (StepsIn.trans hs (.one (fenced_calm (fr := b.atR a₂ (.code .ret :: k₁)) hF' hr' rfl) (stepR_round_ret rfl rfl hend)))⟩
    | exit id =>
      obtain ⟨v, w₄, hend, hR⟩ := hq₂
      obtain ⟨k₁, hk, hs⟩ := harr₂.2 rfl rfl
      exact ⟨.returned v, w₄, hR, (StepsIn.trans harr s1).trans (StepsIn.trans hs (.one (fenced_calm (fr := b.atR a₂ (.code (.exit id) :: k₁)) hF' hr' rfl) (stepR_round_exit rfl rfl hk hend)))⟩
    | goto t =>
      obtain ⟨v, w₄, hend, hR⟩ := hq₂
      obtain ⟨k₁, hk, hs⟩ := harr₂.2 rfl rfl
      exact ⟨.returned v, w₄, hR, (StepsIn.trans harr s1).trans (StepsIn.trans hs (.one (fenced_calm (fr := b.atR a₂ (.code (.goto t) :: k₁)) hF' hr' rfl) (stepR_round_goto rfl rfl hk hend)))⟩
    | panic ch =>
      obtain ⟨hd, hR⟩ := hq₂
      obtain ⟨todo, hs⟩ := harr₂
      obtain ⟨fn, hfn⟩ := hk
      have hl : Frame.leaving P { b.atR a₂ todo with mode := .panicking ch } w₃ (.panicked ch) := ⟨rfl, hd, fn, hfn⟩
      exact ⟨.panicked ch, w₃, hR, (StepsIn.trans harr s1).trans (StepsIn.trans hs (.one (fenced_leaving (F := F.inRound l) (n := n) hF' hr' hl) (step_leave_panicked hl)))⟩
    | outgrown => exact hq₂.elim
  | exit id => exact hq.elim
  | goto t => exact hq.elim
  | ret => exact hq.elim
  | panic chain => exact hq.elim
  | outgrown => exact hq.elim
end round
/-- As a walk at the wide fence, in frames of functions that the program has. -/
def wpK (P : Program) (c : Code) (Q : Exit → Act → World → Prop) (a : Act) (w : World) : Prop :=
  ∀ (b : Frame) (k : List Item) (cs : List Frame), b.roundOf = none → (∃ fn, P.funcs[b.fn]? = some fn) →
    ∃ e a' w', Q e a' w' ∧ ArrivesIn (Machine.fenced P Fence.wide) P (lone (b.atR a (.code c :: k)) cs w) b k cs e a' w'
section known
variable {P : Program} {Q : Exit → Act → World → Prop} {a : Act} {w : World}
theorem calm_wide {fr : Frame} {cs : List Frame} {w : World} (h : fr.about P w = none) : (lone fr cs w).fenced P Fence.wide := fenced_calm (F := Fence.wide) (n := 0) trivial (room_wide _) h
theorem wpK_of {c : Code} (h : c.wp P Q a w) : wpK P c Q a w := fun b k cs hro _ => (wpIn_wide (n := 0)).2 h b k cs hro trivial (room_wide _)
theorem wpK_seq {x y : Code} (h : wpK P x (Exit.then (wpK P y Q) Q) a w) : wpK P (Code.seq x y) Q a w := by
  intro b k cs hro hk
  have h0 : (lone (b.atR a (.code (.seq x y) :: k)) cs w).fenced P Fence.wide := calm_wide rfl
  obtain ⟨e, a₁, w₁, hq, harr⟩ := h b (.code y :: k) cs hro hk
  cases e with
  | normal =>
    obtain ⟨e₂, a₂, w₂, hq₂, harr₂⟩ := hq b k cs hro hk
    exact ⟨e₂, a₂, w₂, hq₂, .of_steps (.head h0 stepR_seq harr) harr₂⟩
  | exit id => exact ⟨_, a₁, w₁, hq, .of_steps (.one h0 stepR_seq) (.pass (x := .code y) rfl (fun _ _ => .inl (by simp)) harr)⟩
  | goto l => exact ⟨_, a₁, w₁, hq, .of_steps (.one h0 stepR_seq) (.pass (x := .code y) rfl (fun _ _ => .inl (by simp)) harr)⟩
  | ret => exact ⟨_, a₁, w₁, hq, .of_steps (.one h0 stepR_seq) (.pass (x := .code y) rfl (fun _ _ => .inl (by simp)) harr)⟩
  | panic ch => exact ⟨_, a₁, w₁, hq, .of_steps (.one h0 stepR_seq) (.pass (x := .code y) rfl (fun _ _ => .inl (by simp)) harr)⟩
  | outgrown => exact ⟨_, a₁, w₁, hq, .of_steps (.one h0 stepR_seq) (.pass (x := .code y) rfl (fun _ _ => .inl (by simp)) harr)⟩
/-- The first part walked as ever. -/
theorem wpK_after {x y : Code} (h : x.wp P (Exit.then (wpK P y Q) Q) a w) : wpK P (Code.seq x y) Q a w := wpK_seq (wpK_of h)
theorem wpK_block {id : Nat} {c : Code} (h : wpK P c (Exit.inBlock id Q) a w) : wpK P (Code.block id c) Q a w := by
  intro b k cs hro hb
  have h0 : (lone (b.atR a (.code (.block id c) :: k)) cs w).fenced P Fence.wide := calm_wide rfl
  obtain ⟨e, a₁, w₁, hq, harr⟩ := h b (.inBlock id :: k) cs hro hb
  cases e with
  | normal => exact ⟨.normal, a₁, w₁, hq, .head h0 stepR_block (StepsIn.trans harr (.one (calm_wide rfl) stepR_inBlock))⟩
  | exit id' =>
    by_cases hid : id' = id
    · simp only [Exit.inBlock, hid, if_true] at hq
      exact ⟨.normal, a₁, w₁, hq, .head h0 stepR_block (harr.1 k (by simp [exitTo, hid]))⟩
    · simp only [Exit.inBlock, hid, if_false] at hq
      have this : (id == id') = false := by simp; exact fun h => hid h.symm
      have hx : exitTo id' (.inBlock id :: k) = exitTo id' k := by simp [exitTo, this]
      exact ⟨.exit id', a₁, w₁, hq, fun k' hk => .head h0 stepR_block (harr.1 k' (by rw [hx]; exact hk)),
        fun hr' hk => let ⟨k₁, h1, h2⟩ := harr.2 hr' (by rw [hx]; exact hk); ⟨k₁, h1, .head h0 stepR_block h2⟩⟩
  | goto l =>
    have hx : gotoIn l (.inBlock id :: k) = gotoIn l k := by simp [gotoIn]
    exact ⟨_, a₁, w₁, hq, fun k' hk => .head h0 stepR_block (harr.1 k' (by rw [hx]; exact hk)),
      fun hr' hk => let ⟨k₁, h1, h2⟩ := harr.2 hr' (by rw [hx]; exact hk); ⟨k₁, h1, .head h0 stepR_block h2⟩⟩
  | ret => exact ⟨_, a₁, w₁, hq, .of_steps (.one h0 stepR_block) harr⟩
  | panic ch => exact ⟨_, a₁, w₁, hq, .of_steps (.one h0 stepR_block) harr⟩
  | outgrown => exact ⟨_, a₁, w₁, hq, .of_steps (.one h0 stepR_block) harr⟩
theorem stepR_scope {b : Frame} {k : List Item} {cs : List Frame} {c : Code} : step P (lone (b.atR a (.code (.scope c) :: k)) cs w) = .next (lone (b.atR a (.code c :: .inScope c :: k)) cs w) :=
  step_lone_go (by simp [stepG, stepG.exec, Frame.atR])
theorem stepR_inScope {b : Frame} {k : List Item} {cs : List Frame} {c : Code} : step P (lone (b.atR a (.inScope c :: k)) cs w) = .next (lone (b.atR a k) cs w) :=
  step_lone_go (by simp [stepG, stepG.exec, Frame.atR])
theorem wpK_scope {c : Code} (h : wpK P c (Exit.noGoto Q) a w) : wpK P (Code.scope c) Q a w := by
  intro b k cs hro hb
  obtain ⟨e, a₁, w₁, hq, harr⟩ := h b (.inScope c :: k) cs hro hb
  have h0 : (lone (b.atR a (.code (.scope c) :: k)) cs w).fenced P Fence.wide := calm_wide rfl
  cases e with
  | normal => exact ⟨.normal, a₁, w₁, hq, .head h0 stepR_scope (StepsIn.trans harr (.one (calm_wide rfl) stepR_inScope))⟩
  | exit id => exact ⟨.exit id, a₁, w₁, hq, fun k' hk => .head h0 stepR_scope (harr.1 k' (by simp [exitTo, hk])), fun hr' => by rw [hro] at hr'; cases hr'⟩
  | goto l => exact hq.elim
  | ret => exact ⟨_, a₁, w₁, hq, .of_steps (.one h0 stepR_scope) harr⟩
  | panic ch => exact ⟨_, a₁, w₁, hq, .of_steps (.one h0 stepR_scope) harr⟩
  | outgrown => exact ⟨_, a₁, w₁, hq, .of_steps (.one h0 stepR_scope) harr⟩
/-- A function's contract out of its body, walked in frames of functions that the program has. -/
theorem calls_of_wpK {n : Nat} {f : FuncId} {fn : Func} {c : Code} {args : Array Value} {R : Ending → World → Prop} (hf : P.funcs[f]? = some fn) (hb : fn.body = some c)
    (h : wpK P c (bodyPostM Fence.wide n P fn R) { tmps := args ++ Array.replicate (fn.ntmps - args.size) undef, defers := [] } w) : CallsIn Fence.wide n P f args w R := by
  refine ⟨trivial, fun cs hr => ?_⟩
  let b : Frame := { (default : Frame) with fn := f, kind := .normal, roundOf := none }
  have henter : Frame.enter P f args .normal =
      b.atR { tmps := args ++ Array.replicate (fn.ntmps - args.size) undef, defers := [] } [.code c] := by
    simp [Frame.enter, Frame.atR, hf, hb, b]
  obtain ⟨e, a', w', hq, harr⟩ := h b [] cs rfl ⟨fn, hf⟩
  rw [← henter] at harr
  cases e with
  | normal =>
    obtain ⟨e', w'', fr', hR, hs, hfn, hl⟩ := leaves_stepsInM a'.defers .returning w' { b.atR a' [] with mode := .returning } cs rfl rfl rfl hf rfl trivial hr hq
    exact ⟨e', w'', fr', hR, ComesIn.of_steps (StepsIn.trans harr (.one (calm_wide rfl) (stepR_end rfl))) hs, hfn, hl⟩
  | ret =>
    obtain ⟨todo, hs₀⟩ := harr.1 rfl
    obtain ⟨e', w'', fr', hR, hs, hfn, hl⟩ := leaves_stepsInM a'.defers .returning w' { b.atR a' todo with mode := .returning } cs rfl rfl rfl hf rfl trivial hr hq
    exact ⟨e', w'', fr', hR, ComesIn.of_steps hs₀ hs, hfn, hl⟩
  | panic chain =>
    obtain ⟨todo, hs₀⟩ := harr
    obtain ⟨e', w'', fr', hR, hs, hfn, hl⟩ := leaves_stepsInM a'.defers (.panicking chain) w' { b.atR a' todo with mode := .panicking chain } cs rfl rfl rfl hf rfl trivial hr hq
    exact ⟨e', w'', fr', hR, ComesIn.of_steps hs₀ hs, hfn, hl⟩
  | exit id => exact hq.elim
  | goto l => exact hq.elim
  | outgrown => exact ⟨.outgrown, w', b, hq, harr.resolve_left (by simp [b]), rfl, trivial⟩
/-- The statement, in such a frame. -/
theorem wpK_rangeFunc {n : Nat} {g : Operand} {ps : Array Tmp} {assign body : Code}
    (h : ∀ fn, (∃ x, P.funcs[fn]? = some x) → ∃ (l : Nat) (mark : List Deferred) (w₁ : World) (d : Deferred) (w₁' : World) (f : FuncId) (args : Array Value) (w₂ : World),
      (Instr.enterLoop fn a.tmps ps assign body none).run P w = .ok (l, mark) w₁ ∧
      (resolve a.eval (rangeCall g l) 0).run P w₁ = .ok d w₁' ∧
      (invoke d.target d.args).run P w₁' = .ok (.enter f args) w₂ ∧
      CallsIn Fence.wide n P f args w₂ (fun e w₃ => match e with
        | .returned _ => ∃ jump w₄, (Instr.endLoop l).run P w₃ = .ok jump w₄ ∧ (match jump with
          | none => Q .normal { a with defers := mark ++ a.defers } w₄
          | some c => wpK P c Q { a with defers := mark ++ a.defers } w₄)
        | .panicked chain => Q (.panic chain) { a with defers := mark ++ a.defers } w₃
        | .outgrown => False)) :
    wpK P (Code.rangeFunc g ps assign body) Q a w := by
  intro b k cs hro hb
  obtain ⟨l, mark, w₁, d, w₁', f, args, w₂, he, hres, hinv, hcall⟩ := h b.fn hb
  rw [← hro] at he
  have h0 : (lone (b.atR a (.code (.rangeFunc g ps assign body) :: k)) cs w).fenced P Fence.wide := fenced_lone (.inl trivial) (fun _ _ => trivial) (room_wide _)
  have henter := stepR_rangeFunc (P := P) (b := b) (a := a) (k := k) (cs := cs) (w := w) he hres hinv
  obtain ⟨e, w₃, fr, hR, hsteps, hfn, hleave⟩ := hcall.2 (b.atR { a with defers := mark ++ a.defers } (.inRangeFunc l :: k) :: cs) (room_wide _)
  cases e with
  | outgrown => exact hR.elim
  | returned v =>
    have hl : (lone fr (b.atR { a with defers := mark ++ a.defers } (.inRangeFunc l :: k) :: cs) w₃).fenced P Fence.wide := fenced_leaving (F := Fence.wide) (n := n) trivial (room_wide _) hleave
    obtain ⟨jump, w₄, hend, hj⟩ := hR
    have sback : StepsIn (Machine.fenced P Fence.wide) P (lone (b.atR a (.code (.rangeFunc g ps assign body) :: k)) cs w) (lone (b.atR { a with defers := mark ++ a.defers } ((jump.map Item.code).toList ++ k)) cs w₄) := by
      refine .head h0 henter (StepsIn.trans hsteps (.head hl ?_ (.one (calm_wide rfl) (stepR_endRangeFunc hend))))
      rw [← finish_atR_inRangeFunc l v]; exact step_leave_returned hleave
    cases jump with
    | none => exact ⟨.normal, _, w₄, hj, sback⟩
    | some c =>
      obtain ⟨e', a'', w₅, hq, harr⟩ := hj b k cs hro hb
      exact ⟨e', a'', w₅, hq, .of_steps sback harr⟩
  | panicked chain =>
    have hl : (lone fr (b.atR { a with defers := mark ++ a.defers } (.inRangeFunc l :: k) :: cs) w₃).fenced P Fence.wide := fenced_leaving (F := Fence.wide) (n := n) trivial (room_wide _) hleave
    refine ⟨.panic chain, _, w₃, hR, .inRangeFunc l :: k, .head h0 henter (StepsIn.trans hsteps (.one hl ?_))⟩
    rw [← Frame.raise_atR]; exact step_leave_panicked hleave
end known
end Go.Proofs.YtbmemkbfignlaaaGreatDoor

namespace Go.Proofs.YtbmemkbfignlaaaGreatDoor
open Go.RowKit
attribute [local go_sem] Oper.semAt_some

/-! ## An iterator of blocks of its own, whose rounds may give up (of no layer) -/
/-- What such an iterator may have done: of the blocks that were there only its own ones (U) are others; its own ones are those and new ones (U'). -/
structure TurnU (U U' : Nat → Prop) (X Y : World) : Prop where
  os : Y.os = X.os
  tape : Y.tape = X.tape
  output : Y.output = X.output
  size : X.heap.size ≤ Y.heap.size
  same : ∀ k, k < X.heap.size → ¬ U k → Y.heap[k]? = X.heap[k]?
  more : ∀ k, U' k → U k ∨ X.heap.size ≤ k
  lt : ∀ k, U' k → k < Y.heap.size
/-- What a round leaves alone. -/
structure KeptU (U : Nat → Prop) (X Y : World) : Prop where
  size : X.heap.size ≤ Y.heap.size
  same : ∀ k, U k → Y.heap[k]? = X.heap[k]?
section
variable {U U' U2 : Nat → Prop} {X Y Z : World}
theorem TurnU.trans (h : TurnU U U' X Y) (k : TurnU U' U2 Y Z) : TurnU U U2 X Z :=
  ⟨k.os.trans h.os, k.tape.trans h.tape, k.output.trans h.output, Nat.le_trans h.size k.size, fun i hi hn => (k.same i (Nat.lt_of_lt_of_le hi h.size) (fun h' => (h.more i h').elim hn (fun h'' => by omega))).trans (h.same i hi hn),
    fun i hi => (k.more i hi).elim (fun h' => h.more i h') (fun h' => .inr (Nat.le_trans h.size h')), k.lt⟩
theorem TurnU.of_below (h : Below X.heap.size X Y) (hm : ∀ k, U' k → U k ∨ X.heap.size ≤ k) (hl : ∀ k, U' k → k < Y.heap.size) : TurnU U U' X Y := ⟨h.os, h.tape, h.output, h.size, fun k hk _ => h.block k hk, hm, hl⟩
theorem TurnU.put {l : Nat} {o : Obj} (hU : U l) (hl : X.heap[l]? = some o) (o' : Obj) (hlt : ∀ k, U k → k < X.heap.size) : TurnU U U X (X.putObj l o') :=
  ⟨rfl, rfl, rfl, by simp [World.putObj], fun k _ hn => World.putObj_heap_other (fun e => hn (e ▸ hU)), fun k h => .inl h, fun k h => by have := hlt k h; simpa [World.putObj] using this⟩
/-- What lies in a block that is not the iterator's own. -/
theorem TurnU.has {k : Nat} {t : TypeId} {cs : Array Value} (h : TurnU U U' X Y) (hn : ¬ U k) (hh : Has X k t cs) : Has Y k t cs := (h.same k hh.lt hn).trans hh
/-- What is not the iterator's own is not later. -/
theorem TurnU.out {k : Nat} (h : TurnU U U' X Y) (hn : ¬ U k) (hk : k < X.heap.size) : ¬ U' k := fun h' => (h.more k h').elim hn (fun h'' => by omega)
/-- All of the iterator's own lies from B on: what lies below it is as it was. -/
theorem TurnU.below {B : Nat} {w : World} (h : TurnU U U' X Y) (hB : ∀ k, U k → B ≤ k) (hs : B ≤ X.heap.size) (hb : Below B w X) : Below B w Y :=
  ⟨h.os.trans hb.os, h.tape.trans hb.tape, h.output.trans hb.output, Nat.le_trans hb.size h.size, fun k hk => (h.same k (by omega) (fun h' => by have := hB k h'; omega)).trans (hb.block k hk)⟩
theorem KeptU.trans (h : KeptU U X Y) (k : KeptU U Y Z) : KeptU U X Z := ⟨Nat.le_trans h.size k.size, fun i hi => (k.same i hi).trans (h.same i hi)⟩
theorem KeptU.mono (h : KeptU U' X Y) (k : ∀ i, U i → U' i) : KeptU U X Y := ⟨h.size, fun i hi => h.same i (k i hi)⟩
theorem KeptU.below (h : Below X.heap.size X Y) (hl : ∀ k, U k → k < X.heap.size) : KeptU U X Y := ⟨h.size, fun k hk => h.block k (hl k hk)⟩
theorem KeptU.has {k : Nat} {t : TypeId} {cs : Array Value} (h : KeptU U X Y) (hk : U k) (hh : Has X k t cs) : Has Y k t cs := (h.same k hk).trans hh
theorem KeptU.set {p : Addr} (h : KeptU U X Y) (hp : ¬ U p.block) (u : Value) : KeptU U X (Y.setCell p u) := ⟨by have := h.size; simpa [World.setCell] using this, fun k hk => (Below.heap_setCell Y p u k (fun e => hp (e ▸ hk))).trans (h.same k hk)⟩
theorem KeptU.alloc (h : KeptU U X Y) (hl : ∀ k, U k → k < Y.heap.size) (o : Obj) : KeptU U X (Y.alloc o) := ⟨by have := h.size; rw [World.size_alloc]; omega, fun k hk => (Below.heap_alloc Y o k (hl k hk)).trans (h.same k hk)⟩
theorem KeptU.grown {row : Option Nat} (h : KeptU U X Y) (hl : ∀ k, U k → k < Y.heap.size) (hg : Y.grownBy Z row) (hr : ∀ g, row = some g → ¬ U g) : KeptU U X Z := ⟨Nat.le_trans h.size hg.size, fun k hk => (hg.block k (hl k hk) (fun e => hr k e.symm hk)).trans (h.same k hk)⟩
end
/-- The contract of such an iterator: it yields N things, the one behind the other; of what it did not make it reads Cap. -/
def SeqU (n : Nat) (P : Program) (gf : Nat) (lb : Array Value) (encs : Nat → Array Value) (Cap : Nat → Prop) (N : Nat) (w : World) : Prop :=
  ∀ (l : Nat) (J Jx : (Nat → Prop) → Nat → World → Prop) (D : List PanicEntry) (Jp : (Nat → Prop) → World → Prop) (U0 : Nat → Prop) (W : World), Below w.heap.size w W → (∀ k, Cap k → U0 k) → (∀ k, U0 k → k < W.heap.size) →
    (∀ U U' j X Y, J U j X → TurnU U U' X Y → J U' j Y) → (∀ U U' j X Y, Jx U j X → TurnU U U' X Y → Jx U' j Y) → (∀ U U' X Y, Jp U X → TurnU U U' X Y → Jp U' Y) →
    (∀ U j V, J U j V → j < N → (∀ k, U k → k < V.heap.size) → YieldAt Fence.wide (n - 1) P l (encs j) V fun e V' =>
      KeptU U V V' ∧ ((e = .returned (.bool true) ∧ J U (j + 1) V') ∨ (e = .returned (.bool false) ∧ Jx U (j + 1) V') ∨ (e = .panicked D ∧ Jp U V'))) → J U0 0 W →
    CallsIn Fence.wide n P gf (#[.func (.yield l) #[] #[]] ++ lb) W fun e V => ∃ U, (∀ k, U0 k → U k) ∧ (∀ k, U k → U0 k ∨ W.heap.size ≤ k) ∧ (∀ k, U k → k < V.heap.size) ∧
      (((∃ v, e = .returned v) ∧ (J U N V ∨ ∃ j, j < N ∧ Jx U (j + 1) V)) ∨ (e = .panicked D ∧ Jp U V))
/-- What a round of the caller's must come to. -/
def postU (I : (Nat → Prop) → Nat → World → Prop) (Ix : Code → (Nat → Prop) → Nat → World → Prop) (D : List PanicEntry) (Ip : (Nat → Prop) → World → Prop) (U : Nat → Prop) (j : Nat) (W : World) : Exit → Act → World → Prop
  | .normal, _, W' => KeptU U W W' ∧ I U j W'
  | .ret, _, W' => KeptU U W W' ∧ Ix .ret U j W'
  | .exit id, _, W' => KeptU U W W' ∧ Ix (.exit id) U j W'
  | .goto t, _, W' => KeptU U W W' ∧ Ix (.goto t) U j W'
  | .panic ch, a, W' => a.defers = [] ∧ ch = D ∧ KeptU U W W' ∧ Ip U W'
  | .outgrown, _, _ => False
def withD (U : Nat → Prop) (d : Nat) : Nat → Prop := fun k => U k ∨ k = d ∨ k = d + 1
set_option maxHeartbeats 1000000 in
theorem wpK_range {n : Nat} {P : Program} {g : Operand} {ps : Array Tmp} {assign body : Code} {Q : Exit → Act → World → Prop} {a : Act} {w : World}
    {gf : Nat} {lb : Array Value} (hg : a.eval g = .func (.func gf) #[] lb) (eg : ∀ args w, (callFunc gf args).run P w = .ok (.enter gf args) w)
    {encs : Nat → Array Value} {Cap : Nat → Prop} {N : Nat} {w0 : World} (hseq : SeqU (n + 1) P gf lb encs Cap N w0)
    (hb0 : Below w0.heap.size w0 w) (hcl : ∀ k, Cap k → k < w.heap.size) (hps : ∀ x, (encs x).size = ps.size)
    (I : (Nat → Prop) → Nat → World → Prop) (Ix : Code → (Nat → Prop) → Nat → World → Prop) (D : List PanicEntry) (Ip : (Nat → Prop) → World → Prop)
    (hI : ∀ U U' j X Y, I U j X → TurnU U U' X Y → I U' j Y) (hIx : ∀ c U U' j X Y, Ix c U j X → TurnU U U' X Y → Ix c U' j Y) (hIp : ∀ U U' X Y, Ip U X → TurnU U U' X Y → Ip U' Y)
    (h0 : I Cap 0 w) (a₁ : Nat → Act)
    (hassign : ∀ (l j : Nat) (W : World) (K : Act → World → Prop), K (a₁ j) W →
      assign.wpIn (Fence.wide.inRound l) n P (Exit.then K (fun _ _ _ => False)) { tmps := (ps.zip (encs j)).foldl (fun t (p, v) => t.setIfInBounds p v) a.tmps, defers := [] } W)
    (hbody : ∀ (l : Nat) (U : Nat → Prop) (j : Nat) (W : World), (∀ k, U k → k < W.heap.size) → I U j W → j < N → body.wpIn (Fence.wide.inRound l) n P (postU I Ix D Ip U (j + 1) W) (a₁ j) W)
    (hdone : ∀ (U : Nat → Prop) (d : Nat) (W : World), w.heap.size ≤ d → U d → (∀ k, Cap k → U k) → (∀ k, U k → Cap k ∨ w.heap.size ≤ k) → (∀ k, U k → k < W.heap.size) → I U N W → NoCalls W d → Q .normal { a with defers := { target := .collected d, args := #[] } :: a.defers } W)
    (hleft : ∀ (c : Code) (U : Nat → Prop) (d j : Nat) (W : World), w.heap.size ≤ d → U d → (∀ k, Cap k → U k) → (∀ k, U k → Cap k ∨ w.heap.size ≤ k) → (∀ k, U k → k < W.heap.size) → j < N → Ix c U (j + 1) W → NoCalls W d → wpK P c Q { a with defers := { target := .collected d, args := #[] } :: a.defers } W)
    (hgave : ∀ (U : Nat → Prop) (d : Nat) (W : World), w.heap.size ≤ d → U d → (∀ k, U k → Cap k ∨ w.heap.size ≤ k) → (∀ k, U k → k < W.heap.size) → Ip U W → NoCalls W d → Q (.panic D) { a with defers := { target := .collected d, args := #[] } :: a.defers } W) :
    wpK P (Code.rangeFunc g ps assign body) Q a w := by
  refine wpK_rangeFunc (n := n + 1) fun fn hfn => ?_
  obtain ⟨rc, hrc⟩ : ∃ rc : LoopState → Option Code → Loop, rc = fun st pe => { state := st, pending := pe, fn, tmps := a.tmps, params := ps, assign, body, defers := w.heap.size } := ⟨_, rfl⟩
  obtain ⟨V, hV⟩ : ∃ V, (w.alloc (.deferred (some []))).alloc (.loop (rc .ready none)) = V := ⟨_, rfl⟩
  obtain ⟨d, hd⟩ : ∃ d, w.heap.size = d := ⟨_, rfl⟩
  have zV : V.heap.size = d + 1 + 1 := by rw [← hV, ← hd]; simp
  have lr : V.heap[d + 1]? = some (.loop (rc .ready none)) := by rw [← hV, ← hd]; have := World.alloc_heap_new (w.alloc (.deferred (some []))) (.loop (rc .ready none)); rwa [World.size_alloc] at this
  have ld : V.heap[d]? = some (.deferred (some [])) := by rw [← hV, ← hd]; exact (Below.heap_alloc _ _ _ (by simp)).trans (World.alloc_heap_new w _)
  have hbw : Below w.heap.size w V := by rw [← hV]; exact ((Below.refl _ w).alloc (Nat.le_refl _) _).alloc (by simp) _
  have hbV : Below w0.heap.size w0 V := hb0.trans (hbw.mono hb0.size)
  have hcapd : ∀ k, Cap k → k < d := fun k h => by have := hcl k h; omega
  have hIV : I (withD Cap d) 0 V := hI _ _ _ _ _ h0 (.of_below hbw (fun k hk => hk.imp id (fun h => by omega)) (fun k hk => by rcases hk with h | h | h <;> (try have := hcapd k h) <;> omega))
  have hrcD : ∀ st pe, (rc st pe).state = st ∧ (rc st pe).pending = pe := fun st pe => by rw [hrc]; exact ⟨rfl, rfl⟩
  refine ⟨d + 1, [{ target := .collected d, args := #[] }], V, { target := .fn (.func gf) lb, args := #[.func (.yield (d + 1)) #[] #[]] }, V, gf, #[.func (.yield (d + 1)) #[] #[]] ++ lb, V, ?_, ?_, ?_, ?_⟩
  · rw [← hV, hrc, ← hd]; exact run_enterLoop_outer _ _ _ _ _
  · simp only [resolve, hg]; simp [go_sem]
  · simp [invoke, go_sem, eg]
  · refine (hseq (d + 1)
      (fun U j W => I (withD U d) j W ∧ W.heap[d + 1]? = some (.loop (rc .ready none)) ∧ W.heap[d]? = some (.deferred (some [])) ∧ ¬ U d ∧ ¬ U (d + 1) ∧ (∀ k, U k → k < W.heap.size) ∧ d + 1 < W.heap.size)
      (fun U j W => ∃ c, Ix c (withD U d) j W ∧ W.heap[d + 1]? = some (.loop (rc .done (some c))) ∧ W.heap[d]? = some (.deferred (some [])) ∧ ¬ U d ∧ ¬ U (d + 1) ∧ (∀ k, U k → k < W.heap.size) ∧ d + 1 < W.heap.size)
      D (fun U W => Ip (withD U d) W ∧ W.heap[d]? = some (.deferred (some [])) ∧ ¬ U d ∧ ¬ U (d + 1) ∧ (∀ k, U k → k < W.heap.size) ∧ d + 1 < W.heap.size)
      Cap V hbV (fun k h => h) (fun k h => by have := hcapd k h; omega) ?j1 ?j2 ?j3 ?y ⟨hIV, lr, ld, fun h => by have := hcapd _ h; omega, fun h => by have := hcapd _ h; omega, fun k h => by have := hcapd k h; omega, by omega⟩).mono ?e
    case j1 =>
      rintro U U' j X Y ⟨h1, h2, h3, h4, h5, h6, h7⟩ ht
      exact ⟨hI _ _ _ _ _ h1 ⟨ht.os, ht.tape, ht.output, ht.size, fun k hk hn => ht.same k hk (fun h => hn (.inl h)), fun k hk => hk.elim (fun h => (ht.more k h).imp .inl id) (fun h => .inl (.inr h)), fun k hk => hk.elim (ht.lt k) (fun h => by have := ht.size; omega)⟩,
        (ht.same _ h7 h5).trans h2, (ht.same _ (by omega) h4).trans h3, ht.out h4 (by omega), ht.out h5 h7, ht.lt, by have := ht.size; omega⟩
    case j2 =>
      rintro U U' j X Y ⟨c, h1, h2, h3, h4, h5, h6, h7⟩ ht
      exact ⟨c, hIx _ _ _ _ _ _ h1 ⟨ht.os, ht.tape, ht.output, ht.size, fun k hk hn => ht.same k hk (fun h => hn (.inl h)), fun k hk => hk.elim (fun h => (ht.more k h).imp .inl id) (fun h => .inl (.inr h)), fun k hk => hk.elim (ht.lt k) (fun h => by have := ht.size; omega)⟩,
        (ht.same _ h7 h5).trans h2, (ht.same _ (by omega) h4).trans h3, ht.out h4 (by omega), ht.out h5 h7, ht.lt, by have := ht.size; omega⟩
    case j3 =>
      rintro U U' X Y ⟨h1, h3, h4, h5, h6, h7⟩ ht
      exact ⟨hIp _ _ _ _ h1 ⟨ht.os, ht.tape, ht.output, ht.size, fun k hk hn => ht.same k hk (fun h => hn (.inl h)), fun k hk => hk.elim (fun h => (ht.more k h).imp .inl id) (fun h => .inl (.inr h)), fun k hk => hk.elim (ht.lt k) (fun h => by have := ht.size; omega)⟩,
        (ht.same _ (by omega) h4).trans h3, ht.out h4 (by omega), ht.out h5 h7, ht.lt, by have := ht.size; omega⟩
    case y =>
      rintro U j X ⟨h1, h2, h3, h4, h5, h6, h7⟩ hj _
      have hlt : ∀ k, withD U d k → k < X.heap.size := fun k hk => hk.elim (h6 k) (fun h => by omega)
      have hy := run_yield (P := P) (args := encs j) h2 (by rw [hrc]; exact hps j)
      rw [hrc] at hy
      refine ⟨fn, _, assign, body, hy, roundIn_of_wpInP trivial hfn (hassign _ j X _ ⟨_, run_beginRound h2 (by rw [hrc]), ?_⟩)⟩
      obtain ⟨Y, hY⟩ : ∃ Y, X.putObj (d + 1) (.loop { rc .ready none with state := .busy }) = Y := ⟨_, rfl⟩
      rw [hY]
      have yl : Y.heap[d + 1]? = some (.loop { rc .ready none with state := .busy }) := by rw [← hY]; exact World.putObj_heap_same h7
      have yd : Y.heap[d]? = some (.deferred (some [])) := by rw [← hY]; exact (World.putObj_heap_other (by omega)).trans h3
      have yt : TurnU (withD U d) (withD U d) X Y := by rw [← hY]; exact .put (.inr (.inr rfl)) h2 _ hlt
      have ys : Y.heap.size = X.heap.size := by rw [← hY]; simp [World.putObj]
      have yk : KeptU U X Y := ⟨Nat.le_of_eq ys.symm, fun k hk => by rw [← hY]; exact World.putObj_heap_other (fun e => h5 (e ▸ hk))⟩
      refine wpIn_mono (hbody _ (withD U d) j Y (fun k hk => by rw [ys]; exact hlt k hk) (hI _ _ _ _ _ h1 yt) hj) ?_
      have fin : ∀ (jump : Option Code) (Z : World), KeptU (withD U d) Y Z →
          (Instr.endRound (d + 1) jump).run P Z = .ok (.bool jump.isNone) (Z.putObj (d + 1) (.loop (rc (if jump.isNone then .ready else .done) jump))) ∧
          (Z.putObj (d + 1) (.loop (rc (if jump.isNone then .ready else .done) jump))).heap[d + 1]? = some (.loop (rc (if jump.isNone then .ready else .done) jump)) ∧
          (Z.putObj (d + 1) (.loop (rc (if jump.isNone then .ready else .done) jump))).heap[d]? = some (.deferred (some [])) ∧
          KeptU U X (Z.putObj (d + 1) (.loop (rc (if jump.isNone then .ready else .done) jump))) ∧
          TurnU (withD U d) (withD U d) Z (Z.putObj (d + 1) (.loop (rc (if jump.isNone then .ready else .done) jump))) ∧
          (∀ k, U k → k < (Z.putObj (d + 1) (.loop (rc (if jump.isNone then .ready else .done) jump))).heap.size) ∧ d + 1 < (Z.putObj (d + 1) (.loop (rc (if jump.isNone then .ready else .done) jump))).heap.size := fun jump Z hk => by
        have zl := (hk.same (d + 1) (.inr (.inr rfl))).trans yl
        have zs := hk.size
        have := run_endRound (P := P) jump zl
        rw [hrc] at this ⊢
        rw [hrc] at zl
        refine ⟨this, World.putObj_heap_same (Array.getElem?_eq_some_iff.1 zl).1, (World.putObj_heap_other (by omega)).trans ((hk.same d (.inr (.inl rfl))).trans yd), yk.trans ((hk.mono (fun i hi => .inl hi)).trans ⟨by simp [World.putObj], fun k hk' => World.putObj_heap_other (fun e => h5 (e ▸ hk'))⟩), .put (.inr (.inr rfl)) zl _ (fun k hk' => by have := hlt k hk'; omega), fun k hk' => by have := h6 k hk'; simp [World.putObj]; omega, by simp [World.putObj]; omega⟩
      rintro e a3 Z hp
      cases e with
      | normal =>
        obtain ⟨hk3, hi3⟩ := hp
        obtain ⟨hr, e1, e2, e3, e4, e5, e6⟩ := fin none Z hk3
        exact ⟨_, _, hr, e3, .inl ⟨rfl, hI _ _ _ _ _ hi3 e4, e1, e2, h4, h5, e5, e6⟩⟩
      | ret =>
        obtain ⟨hk3, hi3⟩ := hp
        obtain ⟨hr, e1, e2, e3, e4, e5, e6⟩ := fin (some .ret) Z hk3
        exact ⟨_, _, hr, e3, .inr (.inl ⟨rfl, .ret, hIx _ _ _ _ _ _ hi3 e4, e1, e2, h4, h5, e5, e6⟩)⟩
      | exit id' =>
        obtain ⟨hk3, hi3⟩ := hp
        obtain ⟨hr, e1, e2, e3, e4, e5, e6⟩ := fin (some (.exit id')) Z hk3
        exact ⟨_, _, hr, e3, .inr (.inl ⟨rfl, .exit id', hIx _ _ _ _ _ _ hi3 e4, e1, e2, h4, h5, e5, e6⟩)⟩
      | goto t =>
        obtain ⟨hk3, hi3⟩ := hp
        obtain ⟨hr, e1, e2, e3, e4, e5, e6⟩ := fin (some (.goto t)) Z hk3
        exact ⟨_, _, hr, e3, .inr (.inl ⟨rfl, .goto t, hIx _ _ _ _ _ _ hi3 e4, e1, e2, h4, h5, e5, e6⟩)⟩
      | panic ch =>
        obtain ⟨hd3, rfl, hk3, hi3⟩ := hp
        have zs := hk3.size
        exact ⟨hd3, yk.trans (hk3.mono (fun i hi => .inl hi)), .inr (.inr ⟨rfl, hi3, (hk3.same d (.inr (.inl rfl))).trans yd, h4, h5, fun k hk' => by have := h6 k hk'; omega, by omega⟩)⟩
      | outgrown => exact hp.elim
    case e =>
      rintro e Z ⟨U, hU1, hU2, hU3, hE⟩
      have hm : ∀ k, withD U d k → Cap k ∨ w.heap.size ≤ k := fun k hk => hk.elim (fun h => (hU2 k h).imp id (fun h => by omega)) (fun h => .inr (by omega))
      rcases hE with ⟨⟨v, rfl⟩, (⟨hi, hl, hk, n1, n2, n3, n4⟩ | ⟨j, hj, c, hi, hl, hk, n1, n2, n3, n4⟩)⟩ | ⟨rfl, hi, hk, n1, n2, n3, n4⟩
      · have hlt : ∀ k, withD U d k → k < Z.heap.size := fun k hk => hk.elim (n3 k) (fun h => by omega)
        have ht := TurnU.put (X := Z) (U := withD U d) (.inr (.inr rfl)) hl (.loop { rc .ready none with state := .exhausted }) hlt
        have hend := run_endLoop (P := P) hl (by rw [hrc]; simp)
        rw [hrc] at hend ht
        refine ⟨none, _, hend, hdone (withD U d) d _ (by omega) (.inr (.inl rfl)) (fun k h => .inl (hU1 k h)) hm ht.lt (hI _ _ _ _ _ hi ht) ((World.putObj_heap_other (by omega)).trans hk)⟩
      · have hlt : ∀ k, withD U d k → k < Z.heap.size := fun k hk => hk.elim (n3 k) (fun h => by omega)
        have ht := TurnU.put (X := Z) (U := withD U d) (.inr (.inr rfl)) hl (.loop { rc .done (some c) with state := .exhausted }) hlt
        have hend := run_endLoop (P := P) hl (by rw [hrc]; simp)
        rw [hrc] at hend ht
        refine ⟨some c, _, hend, hleft c (withD U d) d j _ (by omega) (.inr (.inl rfl)) (fun k h => .inl (hU1 k h)) hm ht.lt hj (hIx _ _ _ _ _ _ hi ht) ((World.putObj_heap_other (by omega)).trans hk)⟩
      · have hlt : ∀ k, withD U d k → k < Z.heap.size := fun k hk => hk.elim (n3 k) (fun h => by omega)
        exact hgave (withD U d) d _ (by omega) (.inr (.inl rfl)) hm hlt hi hk
end Go.Proofs.YtbmemkbfignlaaaGreatDoor

namespace Go.Proofs.YtbmemkbfignlaaaGreatDoor
open Go.RowKit
attribute [local go_sem] Oper.semAt_some

/-! ## A range over such an iterator, where the round's variable lies in a box that the round makes (of no layer) -/
set_option maxHeartbeats 1000000 in
theorem wpK_rangeB {n : Nat} {P : Program} {g : Operand} {ps : Array Tmp} {assign body : Code} {Q : Exit → Act → World → Prop} {a : Act} {w : World}
    {gf : Nat} {lb : Array Value} (hg : a.eval g = .func (.func gf) #[] lb) (eg : ∀ args w, (callFunc gf args).run P w = .ok (.enter gf args) w)
    {encs : Nat → Array Value} {Cap : Nat → Prop} {N : Nat} {w0 : World} (hseq : SeqU (n + 1) P gf lb encs Cap N w0)
    (hb0 : Below w0.heap.size w0 w) (hcl : ∀ k, Cap k → k < w.heap.size) (hps : ∀ x, (encs x).size = ps.size)
    (I : (Nat → Prop) → Nat → World → Prop) (Ix : Code → (Nat → Prop) → Nat → World → Prop) (D : List PanicEntry) (Ip : (Nat → Prop) → World → Prop)
    (hI : ∀ U U' j X Y, I U j X → TurnU U U' X Y → I U' j Y) (hIx : ∀ c U U' j X Y, Ix c U j X → TurnU U U' X Y → Ix c U' j Y) (hIp : ∀ U U' X Y, Ip U X → TurnU U U' X Y → Ip U' Y)
    (h0 : I Cap 0 w) (Ax : (Nat → Prop) → Nat → Act → World → Prop) (hAx : ∀ U j a' X Y, Ax U j a' X → TurnU U U X Y → Ax U j a' Y)
    (hassign : ∀ (l : Nat) (U : Nat → Prop) (j : Nat) (W : World) (K : Act → World → Prop), (∀ k, U k → k < W.heap.size) → I U j W → j < N → (∀ a' W', KeptU U W W' → (∀ k, U k → k < W'.heap.size) → I U j W' → Ax U j a' W' → K a' W') →
      assign.wpIn (Fence.wide.inRound l) n P (Exit.then K (fun _ _ _ => False)) { tmps := (ps.zip (encs j)).foldl (fun t (p, v) => t.setIfInBounds p v) a.tmps, defers := [] } W)
    (hbody : ∀ (l : Nat) (U : Nat → Prop) (j : Nat) (a' : Act) (W : World), (∀ k, U k → k < W.heap.size) → I U j W → Ax U j a' W → j < N → body.wpIn (Fence.wide.inRound l) n P (postU I Ix D Ip U (j + 1) W) a' W)
    (hdone : ∀ (U : Nat → Prop) (d : Nat) (W : World), w.heap.size ≤ d → U d → (∀ k, Cap k → U k) → (∀ k, U k → Cap k ∨ w.heap.size ≤ k) → (∀ k, U k → k < W.heap.size) → I U N W → NoCalls W d → Q .normal { a with defers := { target := .collected d, args := #[] } :: a.defers } W)
    (hleft : ∀ (c : Code) (U : Nat → Prop) (d j : Nat) (W : World), w.heap.size ≤ d → U d → (∀ k, Cap k → U k) → (∀ k, U k → Cap k ∨ w.heap.size ≤ k) → (∀ k, U k → k < W.heap.size) → j < N → Ix c U (j + 1) W → NoCalls W d → wpK P c Q { a with defers := { target := .collected d, args := #[] } :: a.defers } W)
    (hgave : ∀ (U : Nat → Prop) (d : Nat) (W : World), w.heap.size ≤ d → U d → (∀ k, U k → Cap k ∨ w.heap.size ≤ k) → (∀ k, U k → k < W.heap.size) → Ip U W → NoCalls W d → Q (.panic D) { a with defers := { target := .collected d, args := #[] } :: a.defers } W) :
    wpK P (Code.rangeFunc g ps assign body) Q a w := by
  refine wpK_rangeFunc (n := n + 1) fun fn hfn => ?_
  obtain ⟨rc, hrc⟩ : ∃ rc : LoopState → Option Code → Loop, rc = fun st pe => { state := st, pending := pe, fn, tmps := a.tmps, params := ps, assign, body, defers := w.heap.size } := ⟨_, rfl⟩
  obtain ⟨V, hV⟩ : ∃ V, (w.alloc (.deferred (some []))).alloc (.loop (rc .ready none)) = V := ⟨_, rfl⟩
  obtain ⟨d, hd⟩ : ∃ d, w.heap.size = d := ⟨_, rfl⟩
  have zV : V.heap.size = d + 1 + 1 := by rw [← hV, ← hd]; simp
  have lr : V.heap[d + 1]? = some (.loop (rc .ready none)) := by rw [← hV, ← hd]; have := World.alloc_heap_new (w.alloc (.deferred (some []))) (.loop (rc .ready none)); rwa [World.size_alloc] at this
  have ld : V.heap[d]? = some (.deferred (some [])) := by rw [← hV, ← hd]; exact (Below.heap_alloc _ _ _ (by simp)).trans (World.alloc_heap_new w _)
  have hbw : Below w.heap.size w V := by rw [← hV]; exact ((Below.refl _ w).alloc (Nat.le_refl _) _).alloc (by simp) _
  have hbV : Below w0.heap.size w0 V := hb0.trans (hbw.mono hb0.size)
  have hcapd : ∀ k, Cap k → k < d := fun k h => by have := hcl k h; omega
  have hIV : I (withD Cap d) 0 V := hI _ _ _ _ _ h0 (.of_below hbw (fun k hk => hk.imp id (fun h => by omega)) (fun k hk => by rcases hk with h | h | h <;> (try have := hcapd k h) <;> omega))
  have hrcD : ∀ st pe, (rc st pe).state = st ∧ (rc st pe).pending = pe := fun st pe => by rw [hrc]; exact ⟨rfl, rfl⟩
  refine ⟨d + 1, [{ target := .collected d, args := #[] }], V, { target := .fn (.func gf) lb, args := #[.func (.yield (d + 1)) #[] #[]] }, V, gf, #[.func (.yield (d + 1)) #[] #[]] ++ lb, V, ?_, ?_, ?_, ?_⟩
  · rw [← hV, hrc, ← hd]; exact run_enterLoop_outer _ _ _ _ _
  · simp only [resolve, hg]; simp [go_sem]
  · simp [invoke, go_sem, eg]
  · refine (hseq (d + 1)
      (fun U j W => I (withD U d) j W ∧ W.heap[d + 1]? = some (.loop (rc .ready none)) ∧ W.heap[d]? = some (.deferred (some [])) ∧ ¬ U d ∧ ¬ U (d + 1) ∧ (∀ k, U k → k < W.heap.size) ∧ d + 1 < W.heap.size)
      (fun U j W => ∃ c, Ix c (withD U d) j W ∧ W.heap[d + 1]? = some (.loop (rc .done (some c))) ∧ W.heap[d]? = some (.deferred (some [])) ∧ ¬ U d ∧ ¬ U (d + 1) ∧ (∀ k, U k → k < W.heap.size) ∧ d + 1 < W.heap.size)
      D (fun U W => Ip (withD U d) W ∧ W.heap[d]? = some (.deferred (some [])) ∧ ¬ U d ∧ ¬ U (d + 1) ∧ (∀ k, U k → k < W.heap.size) ∧ d + 1 < W.heap.size)
      Cap V hbV (fun k h => h) (fun k h => by have := hcapd k h; omega) ?j1 ?j2 ?j3 ?y ⟨hIV, lr, ld, fun h => by have := hcapd _ h; omega, fun h => by have := hcapd _ h; omega, fun k h => by have := hcapd k h; omega, by omega⟩).mono ?e
    case j1 =>
      rintro U U' j X Y ⟨h1, h2, h3, h4, h5, h6, h7⟩ ht
      exact ⟨hI _ _ _ _ _ h1 ⟨ht.os, ht.tape, ht.output, ht.size, fun k hk hn => ht.same k hk (fun h => hn (.inl h)), fun k hk => hk.elim (fun h => (ht.more k h).imp .inl id) (fun h => .inl (.inr h)), fun k hk => hk.elim (ht.lt k) (fun h => by have := ht.size; omega)⟩,
        (ht.same _ h7 h5).trans h2, (ht.same _ (by omega) h4).trans h3, ht.out h4 (by omega), ht.out h5 h7, ht.lt, by have := ht.size; omega⟩
    case j2 =>
      rintro U U' j X Y ⟨c, h1, h2, h3, h4, h5, h6, h7⟩ ht
      exact ⟨c, hIx _ _ _ _ _ _ h1 ⟨ht.os, ht.tape, ht.output, ht.size, fun k hk hn => ht.same k hk (fun h => hn (.inl h)), fun k hk => hk.elim (fun h => (ht.more k h).imp .inl id) (fun h => .inl (.inr h)), fun k hk => hk.elim (ht.lt k) (fun h => by have := ht.size; omega)⟩,
        (ht.same _ h7 h5).trans h2, (ht.same _ (by omega) h4).trans h3, ht.out h4 (by omega), ht.out h5 h7, ht.lt, by have := ht.size; omega⟩
    case j3 =>
      rintro U U' X Y ⟨h1, h3, h4, h5, h6, h7⟩ ht
      exact ⟨hIp _ _ _ _ h1 ⟨ht.os, ht.tape, ht.output, ht.size, fun k hk hn => ht.same k hk (fun h => hn (.inl h)), fun k hk => hk.elim (fun h => (ht.more k h).imp .inl id) (fun h => .inl (.inr h)), fun k hk => hk.elim (ht.lt k) (fun h => by have := ht.size; omega)⟩,
        (ht.same _ (by omega) h4).trans h3, ht.out h4 (by omega), ht.out h5 h7, ht.lt, by have := ht.size; omega⟩
    case y =>
      rintro U j X ⟨h1, h2, h3, h4, h5, h6, h7⟩ hj _
      have hlt : ∀ k, withD U d k → k < X.heap.size := fun k hk => hk.elim (h6 k) (fun h => by omega)
      have hy := run_yield (P := P) (args := encs j) h2 (by rw [hrc]; exact hps j)
      rw [hrc] at hy
      refine ⟨fn, _, assign, body, hy, roundIn_of_wpInP trivial hfn (hassign _ (withD U d) j X _ hlt h1 hj (fun a' X' hkx hltx h1x hax => ⟨_, run_beginRound ((hkx.same (d + 1) (.inr (.inr rfl))).trans h2) (by rw [hrc]), ?_⟩))⟩
      have h2x := (hkx.same (d + 1) (.inr (.inr rfl))).trans h2
      have h3x := (hkx.same d (.inr (.inl rfl))).trans h3
      have hks := hkx.size
      have h7x : d + 1 < X'.heap.size := by omega
      obtain ⟨Y, hY⟩ : ∃ Y, X'.putObj (d + 1) (.loop { rc .ready none with state := .busy }) = Y := ⟨_, rfl⟩
      rw [hY]
      have yl : Y.heap[d + 1]? = some (.loop { rc .ready none with state := .busy }) := by rw [← hY]; exact World.putObj_heap_same h7x
      have yd : Y.heap[d]? = some (.deferred (some [])) := by rw [← hY]; exact (World.putObj_heap_other (by omega)).trans h3x
      have yt : TurnU (withD U d) (withD U d) X' Y := by rw [← hY]; exact .put (.inr (.inr rfl)) h2x _ hltx
      have ys : Y.heap.size = X'.heap.size := by rw [← hY]; simp [World.putObj]
      have yk : KeptU U X Y := (hkx.mono (fun i hi => .inl hi)).trans ⟨Nat.le_of_eq ys.symm, fun k hk => by rw [← hY]; exact World.putObj_heap_other (fun e => h5 (e ▸ hk))⟩
      refine wpIn_mono (hbody _ (withD U d) j a' Y (fun k hk => by rw [ys]; exact hltx k hk) (hI _ _ _ _ _ h1x yt) (hAx _ _ _ _ _ hax yt) hj) ?_
      have fin : ∀ (jump : Option Code) (Z : World), KeptU (withD U d) Y Z →
          (Instr.endRound (d + 1) jump).run P Z = .ok (.bool jump.isNone) (Z.putObj (d + 1) (.loop (rc (if jump.isNone then .ready else .done) jump))) ∧
          (Z.putObj (d + 1) (.loop (rc (if jump.isNone then .ready else .done) jump))).heap[d + 1]? = some (.loop (rc (if jump.isNone then .ready else .done) jump)) ∧
          (Z.putObj (d + 1) (.loop (rc (if jump.isNone then .ready else .done) jump))).heap[d]? = some (.deferred (some [])) ∧
          KeptU U X (Z.putObj (d + 1) (.loop (rc (if jump.isNone then .ready else .done) jump))) ∧
          TurnU (withD U d) (withD U d) Z (Z.putObj (d + 1) (.loop (rc (if jump.isNone then .ready else .done) jump))) ∧
          (∀ k, U k → k < (Z.putObj (d + 1) (.loop (rc (if jump.isNone then .ready else .done) jump))).heap.size) ∧ d + 1 < (Z.putObj (d + 1) (.loop (rc (if jump.isNone then .ready else .done) jump))).heap.size := fun jump Z hk => by
        have zl := (hk.same (d + 1) (.inr (.inr rfl))).trans yl
        have zs := hk.size
        have := run_endRound (P := P) jump zl
        rw [hrc] at this ⊢
        rw [hrc] at zl
        refine ⟨this, World.putObj_heap_same (Array.getElem?_eq_some_iff.1 zl).1, (World.putObj_heap_other (by omega)).trans ((hk.same d (.inr (.inl rfl))).trans yd), yk.trans ((hk.mono (fun i hi => .inl hi)).trans ⟨by simp [World.putObj], fun k hk' => World.putObj_heap_other (fun e => h5 (e ▸ hk'))⟩), .put (.inr (.inr rfl)) zl _ (fun k hk' => by have := hlt k hk'; omega), fun k hk' => by have := h6 k hk'; simp [World.putObj]; omega, by simp [World.putObj]; omega⟩
      rintro e a3 Z hp
      cases e with
      | normal =>
        obtain ⟨hk3, hi3⟩ := hp
        obtain ⟨hr, e1, e2, e3, e4, e5, e6⟩ := fin none Z hk3
        exact ⟨_, _, hr, e3, .inl ⟨rfl, hI _ _ _ _ _ hi3 e4, e1, e2, h4, h5, e5, e6⟩⟩
      | ret =>
        obtain ⟨hk3, hi3⟩ := hp
        obtain ⟨hr, e1, e2, e3, e4, e5, e6⟩ := fin (some .ret) Z hk3
        exact ⟨_, _, hr, e3, .inr (.inl ⟨rfl, .ret, hIx _ _ _ _ _ _ hi3 e4, e1, e2, h4, h5, e5, e6⟩)⟩
      | exit id' =>
        obtain ⟨hk3, hi3⟩ := hp
        obtain ⟨hr, e1, e2, e3, e4, e5, e6⟩ := fin (some (.exit id')) Z hk3
        exact ⟨_, _, hr, e3, .inr (.inl ⟨rfl, .exit id', hIx _ _ _ _ _ _ hi3 e4, e1, e2, h4, h5, e5, e6⟩)⟩
      | goto t =>
        obtain ⟨hk3, hi3⟩ := hp
        obtain ⟨hr, e1, e2, e3, e4, e5, e6⟩ := fin (some (.goto t)) Z hk3
        exact ⟨_, _, hr, e3, .inr (.inl ⟨rfl, .goto t, hIx _ _ _ _ _ _ hi3 e4, e1, e2, h4, h5, e5, e6⟩)⟩
      | panic ch =>
        obtain ⟨hd3, rfl, hk3, hi3⟩ := hp
        have zs := hk3.size
        exact ⟨hd3, yk.trans (hk3.mono (fun i hi => .inl hi)), .inr (.inr ⟨rfl, hi3, (hk3.same d (.inr (.inl rfl))).trans yd, h4, h5, fun k hk' => by have := h6 k hk'; omega, by omega⟩)⟩
      | outgrown => exact hp.elim
    case e =>
      rintro e Z ⟨U, hU1, hU2, hU3, hE⟩
      have hm : ∀ k, withD U d k → Cap k ∨ w.heap.size ≤ k := fun k hk => hk.elim (fun h => (hU2 k h).imp id (fun h => by omega)) (fun h => .inr (by omega))
      rcases hE with ⟨⟨v, rfl⟩, (⟨hi, hl, hk, n1, n2, n3, n4⟩ | ⟨j, hj, c, hi, hl, hk, n1, n2, n3, n4⟩)⟩ | ⟨rfl, hi, hk, n1, n2, n3, n4⟩
      · have hlt : ∀ k, withD U d k → k < Z.heap.size := fun k hk => hk.elim (n3 k) (fun h => by omega)
        have ht := TurnU.put (X := Z) (U := withD U d) (.inr (.inr rfl)) hl (.loop { rc .ready none with state := .exhausted }) hlt
        have hend := run_endLoop (P := P) hl (by rw [hrc]; simp)
        rw [hrc] at hend ht
        refine ⟨none, _, hend, hdone (withD U d) d _ (by omega) (.inr (.inl rfl)) (fun k h => .inl (hU1 k h)) hm ht.lt (hI _ _ _ _ _ hi ht) ((World.putObj_heap_other (by omega)).trans hk)⟩
      · have hlt : ∀ k, withD U d k → k < Z.heap.size := fun k hk => hk.elim (n3 k) (fun h => by omega)
        have ht := TurnU.put (X := Z) (U := withD U d) (.inr (.inr rfl)) hl (.loop { rc .done (some c) with state := .exhausted }) hlt
        have hend := run_endLoop (P := P) hl (by rw [hrc]; simp)
        rw [hrc] at hend ht
        refine ⟨some c, _, hend, hleft c (withD U d) d j _ (by omega) (.inr (.inl rfl)) (fun k h => .inl (hU1 k h)) hm ht.lt hj (hIx _ _ _ _ _ _ hi ht) ((World.putObj_heap_other (by omega)).trans hk)⟩
      · have hlt : ∀ k, withD U d k → k < Z.heap.size := fun k hk => hk.elim (n3 k) (fun h => by omega)
        exact hgave (withD U d) d _ (by omega) (.inr (.inl rfl)) hm hlt hi hk
end Go.Proofs.YtbmemkbfignlaaaGreatDoor
