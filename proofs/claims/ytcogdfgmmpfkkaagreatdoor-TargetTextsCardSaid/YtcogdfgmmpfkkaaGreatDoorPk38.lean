import Derived.Test.YtcogdfgmmpfkkaaGreatDoorPk30
import Derived.Test.YtcogdfgmmpfkkaaGreatDoorPk37
namespace Go.Proofs.YtcogdfgmmpfkkaaGreatDoor
open Go.RowKit

/-! ## A range over a function whose body never leaves it, under no label -/
set_option maxHeartbeats 1000000 in
theorem wpIn_range_all {α : Type} {n : Nat} {P : Program} {g : Operand} {ps : Array Tmp} {assign body : Code} {Q : Exit → Act → World → Prop} {a : Act} {w : World}
    {gf : Nat} {lb : Array Value} (hg : a.eval g = .func (.func gf) #[] lb) (eg : ∀ args w, (callFunc gf args).run P w = .ok (.enter gf args) w)
    {encs : α → Array Value} {Kp : World → World → Prop} {S Sp : List α → Prop} {N : Nat} {w0 : World} (hseq : SeqOwn (n - 1) P gf lb encs Kp S Sp N w0)
    (hKt : ∀ {A B C : World}, Kp A B → Kp B C → Kp A C) (hKb : ∀ (W : World) (l : Nat) (o o' : Obj), w.heap.size ≤ l → W.heap[l]? = some o → o.isCells = false → o.isWalk = false → Kp W (W.putObj l o'))
    (hb0 : Below w0.heap.size w0 w) (hps : ∀ x, (encs x).size = ps.size)
    (I : List α → World → Prop) (Ix : Code → List α → World → Prop) (M : World → Prop) (hI : OwnFrom w.heap.size I) (hIx : ∀ c, OwnFrom w.heap.size (Ix c)) (h0 : I [] w)
    (hall : ∀ xs W, S xs → I xs W → M W) (hleft : ∀ c pre W, Ix c pre W → False) (a₁ : α → Act)
    (hassign : ∀ (l : Nat) (x : α) (W : World) (K : Act → World → Prop), K (a₁ x) W →
      assign.wpIn (Fence.wide.inRound l) (n - 1 - 1) P (Exit.then K (fun _ _ _ => False)) { tmps := (ps.zip (encs x)).foldl (fun t (p, v) => t.setIfInBounds p v) a.tmps, defers := [] } W)
    (hbody : ∀ (l : Nat) (pre : List α) (x : α) (W : World), I pre W → pre.length < N → body.wpIn (Fence.wide.inRound l) (n - 1 - 1) P (ownPostG w.heap.size Kp I Ix (pre ++ [x]) W) (a₁ x) W)
    (hrest : ∀ (D : Nat) (W : World), w.heap.size ≤ D → M W → NoCalls W D → Q .normal { a with defers := { target := .collected D, args := #[] } :: a.defers } W) :
    (Code.rangeFunc g ps assign body).wpIn Fence.wide n P Q a w := by
  refine wpIn_rangeFunc fun fn hfn => ?_
  obtain ⟨rc, hrc⟩ : ∃ rc : LoopState → Option Code → Loop, rc = fun st pe => { state := st, pending := pe, fn, tmps := a.tmps, params := ps, assign, body, defers := w.heap.size } := ⟨_, rfl⟩
  obtain ⟨V, hV⟩ : ∃ V, (w.alloc (.deferred (some []))).alloc (.loop (rc .ready none)) = V := ⟨_, rfl⟩
  have zV : V.heap.size = w.heap.size + 1 + 1 := by rw [← hV]; simp
  have lr : V.heap[w.heap.size + 1]? = some (.loop (rc .ready none)) := by rw [← hV]; have := World.alloc_heap_new (w.alloc (.deferred (some []))) (.loop (rc .ready none)); rwa [World.size_alloc] at this
  have ld : V.heap[w.heap.size]? = some (.deferred (some [])) := by rw [← hV]; exact (Below.heap_alloc _ _ _ (by simp)).trans (World.alloc_heap_new w _)
  have hIV : I [] V := by rw [← hV]; exact hI.alloc _ (hI.alloc _ h0)
  have hbV : Below w0.heap.size w0 V := by rw [← hV]; exact hb0.trans ((((Below.refl _ w).alloc (Nat.le_refl _) _).alloc (by simp) _).mono hb0.size)
  refine ⟨w.heap.size + 1, [{ target := .collected w.heap.size, args := #[] }], V, { target := .fn (.func gf) lb, args := #[.func (.yield (w.heap.size + 1)) #[] #[]] }, V, gf, #[.func (.yield (w.heap.size + 1)) #[] #[]] ++ lb, V, ?_, ?_, fun _ _ => trivial, ?_, fun h => (by cases h), ?_⟩
  · rw [← hV, hrc]; exact run_enterLoop_outer _ _ _ _ _
  · simp only [resolve, hg]; simp [go_sem]
  · simp [invoke, go_sem, eg]
  · have up : ∀ {X : World} {row : Option Nat}, (∀ r, row = some r → V.heap.size ≤ r ∧ ∃ o : Obj, X.heap[r]? = some o ∧ o.isCells = false) → ∀ r, row = some r → w.heap.size ≤ r ∧ ∃ o : Obj, X.heap[r]? = some o ∧ o.isCells = false :=
      fun hr r e => ⟨by have := (hr r e).1; omega, (hr r e).2⟩
    refine (hseq (w.heap.size + 1) (fun pre W => I pre W ∧ W.heap[w.heap.size + 1]? = some (.loop (rc .ready none)) ∧ W.heap[w.heap.size]? = some (.deferred (some [])))
      (fun pre W => ∃ c, Ix c pre W ∧ W.heap[w.heap.size + 1]? = some (.loop (rc .done (some c))) ∧ W.heap[w.heap.size]? = some (.deferred (some []))) V hbV
      (fun s X Y row hs hg' hr => ⟨hI s X Y row hs.1 hg' (up hr), grown_obj hs.2.1 hg' hr (by omega), grown_obj hs.2.2 hg' hr (by omega)⟩)
      (fun s X Y row hs hg' hr => by
        obtain ⟨c, h1, h2, h3⟩ := hs
        exact ⟨c, hIx c s X Y row h1 hg' (up hr), grown_obj h2 hg' hr (by omega), grown_obj h3 hg' hr (by omega)⟩) ?_ ⟨hIV, lr, ld⟩).mono ?_
    · rintro pre x X ⟨hi, hl, hd⟩ hlen
      have hy := run_yield (P := P) (args := encs x) hl (by rw [hrc]; exact hps x)
      rw [hrc] at hy
      refine ⟨fn, _, assign, body, hy, roundIn_of_wpIn hfn (hassign _ x X _ ⟨_, run_beginRound hl (by rw [hrc]), ?_⟩)⟩
      have hlt : w.heap.size + 1 < X.heap.size := (Array.getElem?_eq_some_iff.1 hl).1
      obtain ⟨Y, hY⟩ : ∃ Y, X.putObj (w.heap.size + 1) (.loop { rc .ready none with state := .busy }) = Y := ⟨_, rfl⟩
      rw [hY]
      have yl : Y.heap[w.heap.size + 1]? = some (.loop { rc .ready none with state := .busy }) := by rw [← hY]; exact World.putObj_heap_same hlt
      have yd : Y.heap[w.heap.size]? = some (.deferred (some [])) := by rw [← hY]; exact (World.putObj_heap_other (by omega)).trans hd
      have yi : I pre Y := by rw [← hY]; exact hI.putObj _ hi (by omega) hl rfl
      have yk : Kp X Y := by rw [← hY]; exact hKb _ _ _ _ (by omega) hl rfl rfl
      have ys : Y.heap.size = X.heap.size := by rw [← hY]; simp [World.putObj]
      refine wpIn_mono (hbody _ pre x Y yi hlen) ?_
      have fin : ∀ (jump : Option Code) (Z : World), KeepsFrom w.heap.size Y Z →
          (Instr.endRound (w.heap.size + 1) jump).run P Z = .ok (.bool jump.isNone) (Z.putObj (w.heap.size + 1) (.loop (rc (if jump.isNone then .ready else .done) jump))) ∧
          Z.heap[w.heap.size + 1]? = some (.loop { rc .ready none with state := .busy }) ∧
          (Z.putObj (w.heap.size + 1) (.loop (rc (if jump.isNone then .ready else .done) jump))).heap[w.heap.size + 1]? = some (.loop (rc (if jump.isNone then .ready else .done) jump)) ∧
          (Z.putObj (w.heap.size + 1) (.loop (rc (if jump.isNone then .ready else .done) jump))).heap[w.heap.size]? = some (.deferred (some [])) ∧
          KeepsFrom V.heap.size X (Z.putObj (w.heap.size + 1) (.loop (rc (if jump.isNone then .ready else .done) jump))) := fun jump Z hk => by
        have zl := hk.same _ _ (by omega) yl rfl
        have := run_endRound (P := P) jump zl
        rw [hrc] at this ⊢
        refine ⟨this, by rw [hrc] at zl; exact zl, World.putObj_heap_same (Array.getElem?_eq_some_iff.1 zl).1, (World.putObj_heap_other (by omega)).trans (hk.same _ _ (Nat.le_refl _) yd rfl), ?_, fun k o hk1 hk2 hk3 => ?_⟩
        · have := hk.size; simp [World.putObj]; omega
        · refine (World.putObj_heap_other (by omega)).trans (hk.same k o (by omega) ?_ hk3)
          rw [← hY]
          exact (World.putObj_heap_other (by omega)).trans hk2
      rintro e a3 Z hp
      cases e with
      | normal =>
        obtain ⟨hk3, hkp3, hi3⟩ := hp
        obtain ⟨hr, hl3, hl4, hk4, hkf⟩ := fin none Z hk3
        exact ⟨_, _, hr, hkf, .inl ⟨rfl, ⟨hI.putObj _ hi3 (by omega) hl3 rfl, hl4, hk4⟩, hKt (hKt yk hkp3) (hKb _ _ _ _ (by omega) hl3 rfl rfl)⟩⟩
      | ret =>
        obtain ⟨hk3, hi3⟩ := hp
        obtain ⟨hr, hl3, hl4, hk4, hkf⟩ := fin (some .ret) Z hk3
        exact ⟨_, _, hr, hkf, .inr ⟨rfl, .ret, (hIx _).putObj _ hi3 (by omega) hl3 rfl, hl4, hk4⟩⟩
      | exit id' =>
        obtain ⟨hk3, hi3⟩ := hp
        obtain ⟨hr, hl3, hl4, hk4, hkf⟩ := fin (some (.exit id')) Z hk3
        exact ⟨_, _, hr, hkf, .inr ⟨rfl, .exit id', (hIx _).putObj _ hi3 (by omega) hl3 rfl, hl4, hk4⟩⟩
      | goto t =>
        obtain ⟨hk3, hi3⟩ := hp
        obtain ⟨hr, hl3, hl4, hk4, hkf⟩ := fin (some (.goto t)) Z hk3
        exact ⟨_, _, hr, hkf, .inr ⟨rfl, .goto t, (hIx _).putObj _ hi3 (by omega) hl3 rfl, hl4, hk4⟩⟩
      | panic ch => exact hp.elim
      | outgrown => exact hp.elim
    · rintro e Z ⟨⟨v, rfl⟩, (⟨xs, hS, hi, hl, hk⟩ | ⟨pre, hSp, c, hi, hl, hk⟩)⟩
      · exact ⟨none, _, by have := run_endLoop (P := P) hl (by rw [hrc]; simp); rw [hrc] at this; exact this, hrest _ _ (Nat.le_refl _) (hall xs _ hS (hI.putObj _ hi (by omega) hl rfl)) ((World.putObj_heap_other (by omega)).trans hk)⟩
      · have hix := (hIx c).putObj (.loop { rc .done (some c) with state := .exhausted }) hi (by omega) hl rfl
        exact (hleft c pre _ hix).elim
end Go.Proofs.YtcogdfgmmpfkkaaGreatDoor

namespace Go.Proofs.YtcogdfgmmpfkkaaGreatDoor
open Go.RowKit Go.Shelf
attribute [local go_sem] Oper.semAt_some

/-! ## What keeps a builder, a row of pairs and a text's box -/
theorem BuF.kept {B b : Nat} {l : List UInt8} {W W' : World} (h : BuF B b l W) (k : ∀ (j : Nat) (cs : Array Value) (e : TypeId) (fz : Nat × Nat), W.heap[j]? = some (Obj.cells cs e fz) → e ≠ 9 → W'.heap[j]? = some (Obj.cells cs e fz)) : BuF B b l W' := by
  have one : ∀ {p : Value}, Lib.BuilderAtF 66 5 B b p (Lib.byteCells l) W → Lib.BuilderAtF 66 5 B b p (Lib.byteCells l) W' := by
    rintro p ⟨h1, v, h2, ⟨h3, h4⟩, h5⟩
    refine ⟨h1, v, k _ _ _ _ h2 (by decide), ⟨h3, ?_⟩, h5⟩
    rcases h4 with h4 | ⟨g, cap, cur, fz, e, hb, hg, r⟩
    · exact .inl h4
    · exact .inr ⟨g, cap, cur, fz, e, hb, k _ _ _ _ hg (by decide), r⟩
  exact h.imp one one
theorem BuF.below {B b : Nat} {l : List UInt8} {W W' : World} (h : BuF B b l W) (hb : Below W.heap.size W W') : BuF B b l W' :=
  h.kept fun j _ _ _ hj _ => (hb.block j (Array.getElem?_eq_some_iff.1 hj).1).trans hj
theorem BuF.set {B b k i : Nat} {l : List UInt8} {W : World} {cs : Array Value} (h : BuF B b l W) (hk : Has W k 9 cs) (u : Value) : BuF B b l (W.setCell ⟨k, i, none⟩ u) :=
  h.kept fun j _ e _ hj he => (Below.heap_setCell W ⟨k, i, none⟩ u j (fun e' => he (by
    have hk' : W.heap[k]? = some (.cells cs 9 (0, 0)) := hk
    rw [show j = k from e', hk'] at hj
    injection hj with hj
    injection hj with _ hj _
    exact hj.symm))).trans hj
theorem BuF.head {B b : Nat} {l : List UInt8} {W : World} (h : BuF B b l W) : ∃ c, W.heap[b]? = some (.cells c 66 (0, 0)) := by
  rcases h with ⟨_, v, h, _⟩ | ⟨_, v, h, _⟩
  · exact ⟨_, h⟩
  · exact ⟨_, h⟩
theorem buF_from {β : Type} (B0 B b : Nat) (f : β → List UInt8) : OwnFrom B0 (fun s W => BuF B b (f s) W) := fun s X Y row hs hg hr =>
  BuF.kept hs fun j cs e fz hj _ => (hg.block j (Array.getElem?_eq_some_iff.1 hj).1 (fun e' => by
    obtain ⟨_, o, ho, hc⟩ := hr j e'.symm
    rw [hj] at ho
    cases ho
    cases hc)).trans hj
/-- But texts' boxes, bytes and builders, all is as it was. -/
structure KeepP (W W' : World) : Prop where
  size : W.heap.size ≤ W'.heap.size
  same : ∀ (k : Nat) (o : Obj), W.heap[k]? = some o → (∀ c e fz, o = .cells c e fz → e ≠ 5 ∧ e ≠ 66 ∧ e ≠ 9) → W'.heap[k]? = some o
theorem KeepP.trans {A B C : World} (h : KeepP A B) (k : KeepP B C) : KeepP A C := ⟨Nat.le_trans h.size k.size, fun j o hj ho => k.same j o (h.same j o hj ho) ho⟩
theorem KeepP.below {A B : World} (h : Below A.heap.size A B) : KeepP A B := ⟨h.size, fun j _ hj _ => (h.block j (Array.getElem?_eq_some_iff.1 hj).1).trans hj⟩
theorem KeepP.set {W : World} {k i : Nat} {cs : Array Value} (hk : Has W k 9 cs) (u : Value) : KeepP W (W.setCell ⟨k, i, none⟩ u) := ⟨by simp [World.setCell], fun j o hj ho => (Below.heap_setCell W ⟨k, i, none⟩ u j (fun e' => by
    have hk' : W.heap[k]? = some (.cells cs 9 (0, 0)) := hk
    rw [show j = k from e', hk'] at hj
    injection hj with hj
    exact (ho _ _ _ hj.symm).2.2 rfl)).trans hj⟩
theorem KeepP.others {B b : Nat} {l : List UInt8} {W W' : World} (hB : BuF B b l W) (h : Lib.OthersKept 5 (some b) W W') (hz : W.heap.size ≤ W'.heap.size) : KeepP W W' := ⟨hz, fun j o hj ho => h j o hj (fun e => by
    obtain ⟨c, hc⟩ := hB.head
    injection e with e
    subst e
    rw [hc] at hj
    injection hj with hj
    exact (ho _ _ _ hj.symm).2.1 rfl) (fun c fz e => (ho _ _ _ e).1 rfl)⟩
theorem KeepP.from {W W' : World} (h : KeepP W W') (B : Nat) : KeepsFrom B W W' := ⟨h.size, fun k o _ hk ho => h.same k o hk (fun c e fz e' => by subst e'; cases ho)⟩
def PairB (b : Nat) (v : Value) (k : Nat) : Prop := k ≠ b ∧ v.ownBlock ≠ some k
theorem KeepP.env {W W' : World} {b : Nat} {v : Value} {qs : List PairL} (h : KeepP W W') (hE : PrEnv W b v qs) : PrEnv W' b v qs := by
  refine ⟨h.same _ _ hE.box (fun c e fz e' => ?_), hE.row.kept fun g hg => ?_⟩
  · injection e' with _ e' _
    subst e'
    decide
  · obtain ⟨_, cs, hc⟩ := hE.row.own g hg
    have hc' : W.heap[g]? = some (.cells cs 46 (0, 0)) := hc
    rw [hc']
    refine h.same g _ hc' (fun c e fz e' => ?_)
    injection e' with _ e' _
    subst e'
    decide
theorem KeepP.keptC {W W' : World} {b : Nat} {v : Value} {qs : List PairL} (h : KeepP W W') (hE : PrEnv W b v qs) : KeptC (PairB b v) W W' := ⟨h.size, fun k t cs hk hn => by
  by_cases hkb : k = b
  · subst hkb
    have h1 : W.heap[k]? = some (.cells #[v] 24 (0, 0)) := hE.box
    have h2 : W.heap[k]? = some (.cells cs t (0, 0)) := hk
    have h3 : W'.heap[k]? = some (.cells #[v] 24 (0, 0)) := (h.env hE).box
    rw [h1] at h2
    rw [h2] at h3
    exact h3
  · have hv : v.ownBlock = some k := by
      rcases Classical.em (v.ownBlock = some k) with e | e
      · exact e
      · exact (hn ⟨hkb, e⟩).elim
    obtain ⟨_, cs1, h1⟩ := hE.row.own k hv
    have h1' : W.heap[k]? = some (.cells cs1 46 (0, 0)) := h1
    have h2 : W.heap[k]? = some (.cells cs t (0, 0)) := hk
    have h3 : W'.heap[k]? = some (.cells cs1 46 (0, 0)) := h.same k _ h1' (fun c e fz e' => by
      injection e' with _ e' _
      subst e'
      decide)
    rw [h1'] at h2
    rw [h2] at h3
    exact h3⟩
theorem prEnv_from {β : Type} (B0 b : Nat) (v : Value) (qs : List PairL) : OwnFrom B0 (fun (_ : β) W => PrEnv W b v qs) := fun s X Y row hs hg hr => by
  have k : ∀ (j : Nat) (cs : Array Value) (e : TypeId) (fz : Nat × Nat), X.heap[j]? = some (Obj.cells cs e fz) → Y.heap[j]? = some (Obj.cells cs e fz) := fun j cs e fz hj => (hg.block j (Array.getElem?_eq_some_iff.1 hj).1 (fun e' => by
    obtain ⟨_, o, ho, hc⟩ := hr j e'.symm
    rw [hj] at ho
    cases ho
    cases hc)).trans hj
  refine ⟨k _ _ _ _ hs.box, hs.row.kept fun g hg => ?_⟩
  obtain ⟨_, cs, hc⟩ := hs.row.own g hg
  have hc' : X.heap[g]? = some (.cells cs 46 (0, 0)) := hc
  rw [hc']
  exact k _ _ _ _ hc'
theorem cat4 (k v : List UInt8) (c : UInt8) : (⟨#[c]⟩ : ByteArray) ++ ⟨k.toArray⟩ ++ ⟨#[61]⟩ ++ ⟨v.toArray⟩ = ⟨(c :: (k ++ 61 :: v)).toArray⟩ := by
  refine (show _ = _ from ?_ : (⟨[c].toArray⟩ : ByteArray) ++ ⟨k.toArray⟩ ++ ⟨[61].toArray⟩ ++ ⟨v.toArray⟩ = _)
  rw [app_str, app_str, app_str]
  simp
theorem allL_some {α β : Type} (g : α → β) : ∀ ls : List α, allL (fun x => some (g x)) ls = some (ls.map g)
  | [] => rfl
  | x :: r => by
    unfold allL
    rw [allL_some g r]
    rfl
theorem pathP_tx (p : List (List UInt8)) : pathP (p.map encL) = pathTx p := by
  induction p with
  | nil => rfl
  | cons x r ih =>
    show 47 :: encL x ++ pathP (r.map encL) = (47 :: encL x) ++ pathTx r
    rw [ih]
/-- What stands before the next pair. -/
def headB (n : Nat) : UInt8 := if n = 0 then 63 else 38
/-- Text, so far. -/
structure WrI (qs : List PairL) (P : List UInt8) (nb ah b : Nat) (v : Value) (n : Nat) (w : World) (pre : List Nat) (W : World) : Prop where
  bu : BuF nb nb (P ++ queryTx (pre.map fun y => qs.getD y ([], []))) W
  ah : Has W ah 9 #[.string ⟨#[headB pre.length]⟩]
  env : PrEnv W b v qs
  below : Below n w W
theorem wrI_from (qs : List PairL) (P : List UInt8) (nb ah b : Nat) (v : Value) (n : Nat) (w : World) (B : Nat) (hn : n ≤ w.heap.size) (hB : n ≤ B) (ha : ah < B) : OwnFrom B (WrI qs P nb ah b v n w) := by
  intro s X Y row ⟨h1, h2, h3, h4⟩ hg hr
  exact ⟨buF_from B nb nb (fun s : List Nat => P ++ queryTx (s.map fun y => qs.getD y ([], []))) s X Y row h1 hg hr,
    has_from ha 9 (fun s : List Nat => #[.string ⟨#[headB s.length]⟩]) s X Y row h2 hg hr,
    prEnv_from (β := List Nat) B b v qs s X Y row h3 hg hr, ownFrom_below (β := List Nat) hn hB s X Y row h4 hg hr⟩
end Go.Proofs.YtcogdfgmmpfkkaaGreatDoor
