import Derived.Test.YthdmmlaahjgijaaDoorG
import Derived.KernelRfl
import Derived.WalkMore
import Derived.Laws.EntriesVeiled
import Derived.BigRegionIn
import Derived.Shelf.Abstract
import Derived.RangeFuncLeaves
namespace Go.Proofs.YthdmmlaahjgijaaDoor
open Go.RowKit Go.Shelf
attribute [local go_sem] Oper.semAt_some
attribute [local go_sem] wide_fn wide_depth wide_round

/-! ## A range over a function, its variable in a box, whose ways out meet -/
theorem wpIn_range_meetsH {α : Type} {F : Fence} {n : Nat} {P : Program} {g : Operand} {ps : Array Tmp} {assign body : Code} {Q : Exit → Act → World → Prop} {a : Act} {w : World}
    (id : Nat) (hro : F.round = none) (h1 : 1 ≤ n) {gf : Nat} {lb : Array Value} (hg : a.eval g = .func (.func gf) #[] lb) (hFg : F.fn gf) (eg : ∀ args w, (callFunc gf args).run P w = .ok (.enter gf args) w)
    {encs : α → Array Value} {Kp : World → World → Prop} {S Sp : List α → Prop} {N : Nat} {w0 : World} (hseq : SeqStopsK F (n - 1) P gf lb encs Kp S Sp N w0)
    (hKt : ∀ {A B C : World}, Kp A B → Kp B C → Kp A C) (hKb : ∀ (W : World) (l : Nat) (o o' : Obj), w.heap.size ≤ l → W.heap[l]? = some o → o.isCells = false → o.isWalk = false → Kp W (W.putObj l o')) (hb0 : Below w0.heap.size w0 w) (hps : ∀ x, (encs x).size = ps.size)
    (I : List α → World → Prop) (Ix : Code → List α → World → Prop) (M : World → Prop) (hI : OwnFrom w.heap.size I) (hIx : ∀ c, OwnFrom w.heap.size (Ix c)) (h0 : I [] w)
    (hall : ∀ xs W, S xs → I xs W → M W) (hleft : ∀ c pre W, Sp pre → Ix c pre W → c = .exit id ∧ M W)
    (Ax : α → Act → World → Prop) (hAx : ∀ x a', OwnFrom w.heap.size (fun (_ : Unit) W => Ax x a' W))
    (hassign : ∀ (l : Nat) (pre : List α) (x : α) (W : World) (K : Act → World → Prop), I pre W → (∀ a' W', KeepsFrom w.heap.size W W' → Kp W W' → I pre W' → Ax x a' W' → K a' W') →
      assign.wpIn (F.inRound l) (n - 1 - 1) P (Exit.then K (fun _ _ _ => False)) { tmps := (ps.zip (encs x)).foldl (fun t (p, v) => t.setIfInBounds p v) a.tmps, defers := [] } W)
    (hbody : ∀ (l : Nat) (pre : List α) (x : α) (a' : Act) (W : World), w.heap.size ≤ l → (∃ r, W.heap[l]? = some (.loop r)) → I pre W → Ax x a' W → pre.length < N → body.wpIn (F.inRound l) (n - 1 - 1) P (ownPostG w.heap.size Kp I Ix (pre ++ [x]) W) a' W)
    (hq : ∀ a W, Q .normal a W → Q (.exit id) a W)
    (hrest : ∀ (D : Nat) (W : World), w.heap.size ≤ D → M W → NoCalls W D → Q .normal { a with defers := { target := .collected D, args := #[] } :: a.defers } W) :
    (Code.rangeFunc g ps assign body).wpIn F n P Q a w :=
  wpIn_rangeFunc_ownH hro h1 hg hFg eg hseq (fun h k => hKt h k) hKb hb0 hps I Ix hI hIx h0 Ax hAx hassign hbody
    (fun D xs W hD hS hI hk => hrest D W hD (hall xs W hS hI) hk)
    (fun D c pre W hD hS hI hk => by
      obtain ⟨rfl, hM⟩ := hleft c pre W hS hI
      exact wpIn_exit (hq _ _ (hrest D W hD hM hk)))
/-- A block of cells abides the turn of what is no cells. -/
theorem Has.row {X Y : World} {row : Option Nat} {k : Nat} {t : TypeId} {cs : Array Value} {B : Nat} (hs : Has X k t cs) (hg : X.grownBy Y row) (hr : ∀ r, row = some r → B ≤ r ∧ ∃ o : Obj, X.heap[r]? = some o ∧ o.isCells = false) : Has Y k t cs :=
  (hg.block k hs.lt (fun e => by
    obtain ⟨_, o, ho, hc⟩ := hr k e.symm
    have hs' : X.heap[k]? = some (.cells cs t (0, 0)) := hs
    rw [hs'] at ho
    rw [← Option.some.inj ho] at hc
    cases hc)).trans hs
/-- The frame of a round whose variable lies in a box. -/
def AxB {α : Type} (F : α → Nat → Act) (t : TypeId) (V : α → Array Value) (x : α) (a' : Act) (W : World) : Prop := ∃ k, a' = F x k ∧ Has W k t (V x)
theorem axB_from {α : Type} {B : Nat} {F : α → Nat → Act} {t : TypeId} {V : α → Array Value} (x : α) (a' : Act) : OwnFrom B (fun (_ : Unit) W => AxB F t V x a' W) := fun _ X Y row hs hg hr => by
  obtain ⟨k, e, h⟩ := hs
  exact ⟨k, e, h.row hg hr⟩
/-- But for the blocks of which S holds, and what is new, the world is as it was. -/
structure Chg (S : Nat → Prop) (w w' : World) : Prop where
  os : w'.os = w.os
  tape : w'.tape = w.tape
  output : w'.output = w.output
  size : w.heap.size ≤ w'.heap.size
  block : ∀ k, k < w.heap.size → ¬ S k → w'.heap[k]? = w.heap[k]?
section
variable {S : Nat → Prop} {a b c : World}
theorem Chg.refl (S : Nat → Prop) (w : World) : Chg S w w := ⟨rfl, rfl, rfl, Nat.le_refl _, fun _ _ _ => rfl⟩
theorem Chg.trans (h : Chg S a b) (k : Chg S b c) : Chg S a c :=
  ⟨k.os.trans h.os, k.tape.trans h.tape, k.output.trans h.output, Nat.le_trans h.size k.size, fun i hi h1 => (k.block i (Nat.lt_of_lt_of_le hi h.size) h1).trans (h.block i hi h1)⟩
theorem Chg.of_below (h : Below a.heap.size a b) : Chg S a b := ⟨h.os, h.tape, h.output, h.size, fun k hk _ => h.block k hk⟩
theorem Chg.mono {S' : Nat → Prop} (h : Chg S a b) (k : ∀ i, i < a.heap.size → S i → S' i) : Chg S' a b := ⟨h.os, h.tape, h.output, h.size, fun i hi hn => h.block i hi (fun hs => hn (k i hi hs))⟩
theorem Chg.has {k : Nat} {t : TypeId} {cs : Array Value} (h : Chg S a b) (hk : ¬ S k) (hh : Has a k t cs) : Has b k t cs := (h.block k hh.lt hk).trans hh
theorem Chg.drewN (h : Chg S a b) (q : Nat) : Chg S a (b.drewN q) := ⟨h.os, h.tape, h.output, h.size, h.block⟩
theorem Chg.only {g : Nat} (h : Only g a b) (hg : S g) : Chg S a b := ⟨h.os, h.tape, h.output, by rw [h.size]; exact Nat.le_refl _, fun k _ hk => h.block k (fun e => hk (e ▸ hg))⟩
theorem Chg.below {B : Nat} (h : Chg S a b) (hS : ∀ k, S k → B ≤ k) (hB : B ≤ a.heap.size) : Below B a b := ⟨h.os, h.tape, h.output, h.size, fun k hk => h.block k (by omega) (fun hs => by have := hS k hs; omega)⟩
theorem Chg.row {w : World} {row : Option Nat} {B : Nat} (h : Chg S w a) (hg : a.grownBy b row) (hr : ∀ r, row = some r → B ≤ r ∧ ∃ o : Obj, a.heap[r]? = some o ∧ o.isCells = false) (hB : w.heap.size ≤ B) : Chg S w b :=
  ⟨hg.os.trans h.os, hg.tape.trans h.tape, hg.output.trans h.output, Nat.le_trans h.size hg.size, fun k hk hn => (hg.block k (Nat.lt_of_lt_of_le hk h.size) (fun e => by have := (hr k e.symm).1; omega)).trans (h.block k hk hn)⟩
theorem Chg.putObj (h : Chg S a b) (D : Nat) (o : Obj) (hD : a.heap.size ≤ D) : Chg S a (b.putObj D o) :=
  ⟨h.os, h.tape, h.output, by simp [World.putObj]; exact h.size, fun k hk hn => (World.putObj_heap_other (by omega)).trans (h.block k hk hn)⟩
theorem Dec.chg {d : Nat} {ws : List UInt8} (h : Dec a d ws) (k : Chg S a b) (hd : ¬ S d) : Dec b d ws := h.kept (k.block d h.lt hd)
theorem Dec.row {d : Nat} {ws : List UInt8} {row : Option Nat} {B : Nat} (h : Dec a d ws) (hg : a.grownBy b row) (hr : ∀ r, row = some r → B ≤ r ∧ ∃ o : Obj, a.heap[r]? = some o ∧ o.isCells = false) : Dec b d ws := by
  obtain ⟨x, y, z, h1, h2, h3⟩ := h
  exact ⟨x, y, z, h1, h2, h3.row hg hr⟩
theorem Bs.row {n0 : Nat} {v : Value} {l : List UInt8} {row : Option Nat} {B : Nat} (h : Bs a n0 v l) (hg : a.grownBy b row) (hr : ∀ r, row = some r → B ≤ r ∧ ∃ o : Obj, a.heap[r]? = some o ∧ o.isCells = false) : Bs b n0 v l :=
  h.kept fun g e => by
    obtain ⟨_, cs, hh⟩ := h.own g e
    exact (hh.row hg hr).trans hh.symm
end
/-- What a call wrote that wrote one block and a row of its own. -/
theorem others_only {g : Nat} {w w' : World} {t : TypeId} {cs : Array Value} (h : Only g w w') (hh : Has w g t cs) : KeepsOthers w w' := ⟨by rw [h.size]; exact Nat.le_refl _, fun k o hk hc => (h.block k (fun e => by
  subst e
  have hh' : w.heap[k]? = some (.cells cs t (0, 0)) := hh
  rw [hh'] at hk
  rw [← Option.some.inj hk] at hc
  cases hc)).trans hk⟩
theorem others_grown {w w' : World} {n0 : Nat} {v : Value} {l : List UInt8} (h : Bs w n0 v l) (hg : w.grownBy w' v.ownBlock) : KeepsOthers w w' := ⟨hg.size, fun k o hk hc => (hg.block k (Array.getElem?_eq_some_iff.1 hk).1 (fun e => by
  obtain ⟨_, cs, hh⟩ := h.own k e.symm
  have hh' : w.heap[k]? = some (.cells cs 5 (0, 0)) := hh
  rw [hh'] at hk
  rw [← Option.some.inj hk] at hc
  cases hc)).trans hk⟩

theorem Has.apart {W : World} {k j : Nat} {t t' : TypeId} {cs cs' : Array Value} (h : Has W k t cs) (h' : Has W j t' cs') (hne : t ≠ t') : k ≠ j := fun e => by
  subst e
  unfold Has at h h'
  rw [h] at h'
  injection h' with h'
  injection h' with _ h'
  exact hne h'
theorem has_grown {w w2 : World} {n1 T : Nat} {v : Value} {l : List UInt8} {t : TypeId} {cs : Array Value} (hv : Bs w n1 v l) (hg : w.grownBy w2 v.ownBlock) (hT : Has w T t cs) (ht : t ≠ 5) : Has w2 T t cs :=
  (hg.block T hT.lt (fun e => by
    obtain ⟨_, cs', hh⟩ := hv.own T e.symm
    exact hT.apart hh ht rfl)).trans hT

/-! ## A text is told -/
def Tell (T n1 : Nat) (l : List UInt8) (w : World) (w' : World) : Prop :=
  (∃ v, Has w' T 22 #[v] ∧ Bs w' n1 v l) ∧ Chg (fun k => k = T ∨ n1 ≤ k) w w' ∧ KeepC n1 (· = T) w w' ∧ KeepsOthers w w'
theorem tell_of {T n1 : Nat} {v v2 : Value} {l l2 : List UInt8} {w w2 : World} (hT : Has w T 22 #[v]) (hv : Bs w n1 v l) (hv2 : Bs w2 n1 v2 l2) (hg : w.grownBy w2 v.ownBlock) : Tell T n1 l2 w (w2.setCell ⟨T, 0, none⟩ v2) := by
  have hT2 := has_grown hv hg hT (by decide)
  have hc : Chg (fun k => k = T ∨ n1 ≤ k) w w2 := ⟨hg.os, hg.tape, hg.output, hg.size, fun k hk hn => hg.block k hk (fun e => hn (.inr (hv.own k e.symm).1))⟩
  refine ⟨⟨v2, by simpa using hT2.put 0 v2, hv2.kept fun g e => ?_⟩, hc.trans (.only (only_setCell T 0 w2 v2) (.inl rfl)), KeepC.setCell (p := ⟨T, 0, none⟩) (S := (· = T)) ((KeepC.refl _ _ _).grown hg hv.own) rfl _, (others_grown hv hg).trans (KeepsOthers.setCell _ _ _)⟩
  obtain ⟨_, cs, hh⟩ := hv2.own g e
  exact Below.heap_setCell w2 ⟨T, 0, none⟩ v2 g (hh.apart hT2 (by decide))
theorem tell_any (T n1 : Nat) (v : Value) (l : List UInt8) (s : ByteArray) (w : World) (hT : Has w T 22 #[v]) (hv : Bs w n1 v l) (hn : n1 ≤ w.heap.size) (hs : l.length + s.size ≤ 140737488355328) :
    Calls Tryd.prog 51 #[.string s, .pointer (some ⟨T, 0, none⟩)] w fun e w' => (∃ u, e = .returned u) ∧ Tell T n1 (l ++ s.data.toList) w w' := by
  have c0 := hT.cell 0
  have hT' := Lib.hid hT
  have hv' := Lib.hid hv
  have hs' := Lib.hid hs
  clear hT hv hs
  go_enter Tryd.func51, Tryd.ntmps51
  go_wp2_with (at_builtin; refine wpList_append_text rfl _ _ rfl rfl hv'.out s rfl hs'.out hn ?_; intro v2 w2 hv2 hg2; obtain ⟨A2, c2, hve, _⟩ := hv2.shape; obtain ⟨m2, hm2⟩ : ∃ m, (l ++ s.data.toList).length = m := ⟨_, rfl⟩; rw [hm2] at hve; subst hve; clear hm2; have hv2' := Lib.hid hv2; have hg2' := Lib.hid hg2; have hT2 := has_grown hv'.out hg2 hT'.out (by decide); have c1 := hT2.cell 0; have f1 := hT2.free 0; clear hv2 hg2 hT2)
  go_end0
  exact ⟨⟨_, rfl⟩, tell_of hT'.out hv'.out hv2'.out hg2'.out⟩

/-! ## Write -/
theorem tab_ne {w : World} {d : Nat} {ws : List UInt8} (hT : Tab w) (hd : Dec w d ws) : 0 ≠ d := by
  obtain ⟨t, cs, h1, h2⟩ := hT
  obtain ⟨a, b, c, _, _, h⟩ := hd
  rintro rfl
  have h1' : w.heap[0]? = some (.cells cs t (0, 0)) := h1
  have h' : w.heap[0]? = some (.cells _ _ (0, 0)) := h
  rw [h'] at h1'
  injection h1' with h1'
  injection h1' with h1' _ _
  have := h2 35 (.int .i64 3) rfl
  rw [← h1'] at this
  cases this
section
variable {w W : World} {z d n1 B : Nat} {s : ByteArray} {ws tl : List UInt8}
/-- What lies while a text is gone over: the decoder's box, what was told, who tells it, the text, the decoder. -/
def WrM (w : World) (d n1 B : Nat) (s : ByteArray) (ws tl : List UInt8) (W : World) : Prop :=
  Has W w.heap.size 40 #[.pointer (some ⟨d, 0, none⟩)] ∧ (∃ v, Has W (w.heap.size + 1) 22 #[v] ∧ Bs W n1 v tl) ∧
  Has W (w.heap.size + 1 + 1) 109 #[.func (.func 51) #[] #[.pointer (some ⟨w.heap.size + 1, 0, none⟩)]] ∧ Has W B 9 #[.string s] ∧ Dec W d ws ∧ Chg (· = d) w W ∧ n1 ≤ W.heap.size
theorem WrM.turn {Y : World} {row : Option Nat} (h : WrM w d n1 B s ws tl W) (hg : W.grownBy Y row) (hr : ∀ r, row = some r → n1 ≤ r ∧ ∃ o : Obj, W.heap[r]? = some o ∧ o.isCells = false) (hn : w.heap.size ≤ n1) : WrM w d n1 B s ws tl Y := by
  obtain ⟨h0, ⟨v, h1, h1'⟩, h2, h3, h4, h5, h6⟩ := h
  exact ⟨h0.row hg hr, ⟨v, h1.row hg hr, h1'.row hg hr⟩, h2.row hg hr, h3.row hg hr, h4.row hg hr, h5.row hg hr hn, Nat.le_trans h6 hg.size⟩
theorem WrM.more {Y : World} (h : WrM w d n1 B s ws tl W) (hb : Below W.heap.size W Y) : WrM w d n1 B s ws tl Y := by
  obtain ⟨h0, ⟨v, h1, h1'⟩, h2, h3, h4, h5, h6⟩ := h
  exact ⟨h0.below hb h0.lt, ⟨v, h1.below hb h1.lt, h1'.below hb⟩, h2.below hb h2.lt, h3.below hb h3.lt, h4.below hb, h5.trans (.of_below hb), Nat.le_trans h6 hb.size⟩
/-- A text was told. -/
theorem WrM.tell {Y : World} {tl' : List UInt8} (h : WrM w d n1 B s ws tl W) (hT : Tell (w.heap.size + 1) n1 tl' W Y) (hn : w.heap.size + 1 + 1 < n1) (hB : B < n1) (hB2 : w.heap.size + 1 < B) (hd : d < w.heap.size) : WrM w d n1 B s ws tl' Y := by
  obtain ⟨h0, _, h2, h3, h4, h5, h6⟩ := h
  obtain ⟨t1, t2, _, _⟩ := hT
  exact ⟨t2.has (by omega) h0, t1, t2.has (by omega) h2, t2.has (by omega) h3, h4.chg t2 (by omega), ⟨t2.os.trans h5.os, t2.tape.trans h5.tape, t2.output.trans h5.output, Nat.le_trans h5.size t2.size, fun k hk hne => (t2.block k (Nat.lt_of_lt_of_le hk h5.size) (by omega)).trans (h5.block k hk hne)⟩, Nat.le_trans h6 t2.size⟩
/-- Other bytes wait. -/
theorem WrM.keep {Y : World} {ws' : List UInt8} (h : WrM w d n1 B s ws tl W) (hD : Dec Y d ws') (hO : Only d W Y) (hd : d < w.heap.size) (hn : w.heap.size ≤ n1) (hB : w.heap.size ≤ B) : WrM w d n1 B s ws' tl Y := by
  obtain ⟨h0, ⟨v, h1, h1'⟩, h2, h3, h4, h5, h6⟩ := h
  refine ⟨hO.has h0 (by omega), ⟨v, hO.has h1 (by omega), h1'.kept fun g e => hO.block g (by have := (h1'.own g e).1; omega)⟩, hO.has h2 (by omega), hO.has h3 (by omega), hD, h5.trans (.only hO rfl), by rw [hO.size]; exact h6⟩
end
def Wrote (d : Nat) (tl ws : List UInt8) (w : World) (e : Ending) (w' : World) : Prop :=
  e = .returned (.tuple #[.string ⟨tl.toArray⟩, .int .i64 0]) ∧ Dec w' d ws ∧ Chg (· = d) w w'
theorem told_len (l : List UInt8) : (told l).length ≤ 4 := by
  unfold told
  split
  · rw [List.length_take]
    by_cases h : l = []
    · rw [h]; simp
    · have := look_size h; omega
  · simp [inst]
theorem conc_len (L : List UInt8) (ps : List Nat) : (conc L ps).length ≤ 4 * ps.length := by
  induction ps with
  | nil => simp [conc]
  | cons p ps ih =>
    have := told_len (L.drop p)
    have e : conc L (p :: ps) = told (L.drop p) ++ conc L ps := rfl
    rw [e, List.length_append, List.length_cons]
    omega
/-- Which readings have come, and that all of them were told. -/
def WrI (w : World) (d n1 B : Nat) (s : ByteArray) (pre : List (Fin s.data.toList.length)) (W : World) : Prop :=
  (∀ x ∈ pre, (lookAt s.data.toList x.val).st ≠ 2) ∧ WrM w d n1 B s [] (conc s.data.toList (pre.map Fin.val)) W
def WrX (w : World) (d n1 B : Nat) (s : ByteArray) (c : Code) (pre : List (Fin s.data.toList.length)) (W : World) : Prop :=
  c = .exit 0 ∧ ∃ pre' x, pre = pre' ++ [x] ∧ (∀ y ∈ pre', (lookAt s.data.toList y.val).st ≠ 2) ∧ (lookAt s.data.toList x.val).st = 2 ∧ WrM w d n1 B s (s.data.toList.drop x.val) (conc s.data.toList (pre'.map Fin.val)) W
theorem wr_all {w W : World} {d n1 B : Nat} {s : ByteArray} {xs : List (Fin s.data.toList.length)} (h : Part s.data.toList xs s.size) (hI : WrI w d n1 B s xs W) : WrM w d n1 B s (run4 s.data.toList).2 (run4 s.data.toList).1 W := by
  have hl : s.data.toList.length = s.size := by simp only [Array.length_toList]; rfl
  obtain ⟨h1, h2⟩ := hI
  unfold Part at h
  rw [places_end (by omega), List.append_nil] at h
  have := run_places_all s.data.toList s.data.toList.length 0 (by omega) (by
    intro q hq
    rw [← h] at hq
    obtain ⟨x, hx, rfl⟩ := List.mem_map.1 hq
    exact h1 x hx)
  rw [List.drop_zero, ← h] at this
  rw [this]
  exact h2
theorem wr_left {w W : World} {d n1 B : Nat} {s : ByteArray} {c : Code} {pre : List (Fin s.data.toList.length)} (h : ∃ p, p ≤ s.size ∧ Part s.data.toList pre p) (hI : WrX w d n1 B s c pre W) : c = .exit 0 ∧ WrM w d n1 B s (run4 s.data.toList).2 (run4 s.data.toList).1 W := by
  obtain ⟨p, _, hp⟩ := h
  obtain ⟨rfl, pre', x, rfl, h1, h2, hM⟩ := hI
  refine ⟨rfl, ?_⟩
  unfold Part at hp
  rw [List.map_append, List.map_cons, List.map_nil, List.append_assoc] at hp
  have := run_places_cut s.data.toList (pre'.map Fin.val) 0 x.val (placesFrom s.data.toList p) hp.symm (by
    intro q hq
    obtain ⟨y, hy, rfl⟩ := List.mem_map.1 hq
    exact h1 y hy) h2
  rw [List.drop_zero] at this
  rw [this]
  exact hM
set_option maxRecDepth 100000 in
set_option maxHeartbeats 4000000 in
theorem write_any (d : Nat) (ws bs : List UInt8) (A : Option Addr) (m c : Nat) (w : World) (hd : Dec w d ws) (hm : m = bs.length) (hr : Rd w (· < w.heap.size) A bs) (hT : Tab w) (hl : bs.length ≤ 17592186044416) :
    Calls Tryd.prog 26 #[.pointer (some ⟨d, 0, none⟩), .slice A m c] w (Wrote d (run4 (ws ++ bs)).1 (run4 (ws ++ bs)).2 w) := by
  subst hm
  have hd' := Lib.hid hd
  have hr' := Lib.hid hr
  have hT' := Lib.hid hT
  have hdlt := hd.lt
  clear hd hr hT
  refine (callsIn_wide (n := 3)).1 ?_
  refine callsIn_of_wp_marks Tryd.func26 rfl trivial ?_ rfl
  refine wpIn_wide.2 ?_
  simp only [Tryd.ntmps26, List.size_toArray, List.length_cons, List.length_nil, Nat.reduceAdd, Nat.reduceSub, Array.replicate_succ, Array.replicate_zero, List.push_toArray, List.append_toArray, List.nil_append, List.cons_append]
  go_wp2
  refine wp_scope_on 0 rfl ?_
  go_wp2_with fail
  refine (none_no d ws _ (hd'.out.below ((Below.refl _ _).alloc (Nat.le_refl _) _))).mono ?_
  rintro e w' ⟨rfl, rfl⟩
  go_wp2_with fail
  have k0 := ((Has.new w 40 #[.pointer (some ⟨d, 0, none⟩)]).alloc (.cells #[.slice none 0 0] 22)).alloc (.cells #[.func (.func 51) #[] #[.pointer (some ⟨w.heap.size + 1, 0, none⟩)]] 109)
  have k1 := (Has.new (w.alloc (.cells #[.pointer (some ⟨d, 0, none⟩)] 40)) 22 #[.slice none 0 0]).alloc (.cells #[.func (.func 51) #[] #[.pointer (some ⟨w.heap.size + 1, 0, none⟩)]] 109)
  have k2 := Has.new ((w.alloc (.cells #[.pointer (some ⟨d, 0, none⟩)] 40)).alloc (.cells #[.slice none 0 0] 22)) 109 #[.func (.func 51) #[] #[.pointer (some ⟨w.heap.size + 1, 0, none⟩)]]
  have hB1 : Below w.heap.size w (((w.alloc (.cells #[.pointer (some ⟨d, 0, none⟩)] 40)).alloc (.cells #[.slice none 0 0] 22)).alloc (.cells #[.func (.func 51) #[] #[.pointer (some ⟨w.heap.size + 1, 0, none⟩)]] 109)) :=
    (((Below.refl _ _).alloc (Nat.le_refl _) _).alloc (by simp) _).alloc (by simp; omega) _
  simp only [World.size_alloc] at k1 k2
  obtain ⟨w1, hw1⟩ : ∃ w1, (((w.alloc (.cells #[.pointer (some ⟨d, 0, none⟩)] 40)).alloc (.cells #[.slice none 0 0] 22)).alloc (.cells #[.func (.func 51) #[] #[.pointer (some ⟨w.heap.size + 1, 0, none⟩)]] 109)) = w1 := ⟨_, rfl⟩
  have z1 : w1.heap.size = w.heap.size + 1 + 1 + 1 := by rw [← hw1]; simp
  rw [hw1] at k0 k1 k2 hB1 ⊢
  clear hw1
  refine (list_any d ws w1 (hd'.out.below hB1)).mono ?_
  rintro e w2 ⟨v1, rfl, hv1, hb2⟩
  obtain ⟨A1, c1, rfl, hr1⟩ := hv1.shape
  have hlen := hd'.out.len
  have hr1' := Lib.hid (hr1.mono (S' := (· < w2.heap.size)) (fun b hb => hb.2))
  have hr2' := Lib.hid ((hr'.out.kept (Kept.below (hB1.trans (hb2.mono (by omega))) (fun _ h => h))).mono (S' := (· < w2.heap.size)) (fun b hb => by have := hb2.size; omega))
  have e0 := (k0.below hb2 k0.lt).cell 0
  have hb2' := Lib.hid hb2
  have hs2 := hb2.size
  obtain ⟨m1, hm1⟩ : ∃ m, ws.length = m := ⟨_, rfl⟩
  obtain ⟨m2, hm2⟩ : ∃ m, bs.length = m := ⟨_, rfl⟩
  have hk0 := Lib.hid k0
  have hk1 := Lib.hid k1
  have hk2 := Lib.hid k2
  have hB1' := Lib.hid hB1
  have z1' := Lib.hid z1
  rw [hm1] at hlen ⊢
  rw [hm2] at hl ⊢
  have hm1' := Lib.hid hm1
  have hm2' := Lib.hid hm2
  clear hv1 hr1 hb2 k0 k1 k2 hB1 hm1 hm2 z1
  go_wp2_with fail
  have htg := together_any w2.heap.size 2 2 [.slice A1 m1 c1, .slice A m2 c] [ws, bs] (w2.alloc (.cells #[.slice A1 m1 c1, .slice A m2 c] 22)) rfl (by
    have hmon : ∀ {A0 : Option Addr} {l : List UInt8}, Rd w2 (· < w2.heap.size) A0 l → Rd (w2.alloc (.cells #[.slice A1 m1 c1, .slice A m2 c] 22)) (· < (w2.alloc (.cells #[.slice A1 m1 c1, .slice A m2 c] 22)).heap.size) A0 l := fun h =>
      (h.kept (Kept.below ((Below.refl w2.heap.size w2).alloc (Nat.le_refl _) _) (fun _ h => h))).mono (fun b hb => by simp; omega)
    refine ⟨Has.new w2 _ _, rfl, fun i x hi => ?_⟩
    match i, hi with
    | 0, hi =>
      obtain rfl : ws = x := by simpa using hi
      exact ⟨A1, c1, by rw [hm1'.out]; rfl, hmon hr1'.out⟩
    | 1, hi =>
      obtain rfl : bs = x := by simpa using hi
      exact ⟨A, c, by rw [hm2'.out]; rfl, hmon hr2'.out⟩
    | i + 2, hi => simp at hi) (by have := hm1'.out; have := hm2'.out; simp; omega) (by omega)
  simp only [List.flatten_cons, List.flatten_nil, List.append_nil] at htg
  refine htg.mono ?_
  clear htg
  rintro e w3 ⟨v2, rfl, hv2, hb3⟩
  obtain ⟨A2, c2, rfl, hr3⟩ := hv2.shape
  have hcv := hr3.text (P := Tryd.prog) 22 9 5 c2 Tryd.underlying22 Tryd.underlying5 Tryd.underlying9
  have hLs : (ws ++ bs).length ≤ 17592186044416 + 3 := by have := hm1'.out; have := hm2'.out; rw [List.length_append]; omega
  obtain ⟨s, hs⟩ : ∃ s : ByteArray, (⟨(ws ++ bs).toArray⟩ : ByteArray) = s := ⟨_, rfl⟩
  have hL : ws ++ bs = s.data.toList := by rw [← hs]
  rw [hs] at hcv
  rw [hL] at hcv hLs ⊢
  clear hs
  obtain ⟨mL, hmL⟩ : ∃ m, s.data.toList.length = m := ⟨_, rfl⟩
  rw [hmL] at hcv hLs ⊢
  have hmL' := Lib.hid hmL
  have hb23 : Below w2.heap.size w2 w3 := ((Below.refl w2.heap.size w2).alloc (Nat.le_refl _) _).trans (hb3.mono (by simp))
  have hb13 : Below w1.heap.size w1 w3 := hb2'.out.trans (hb23.mono hs2)
  have hb13' := Lib.hid hb13
  have e0 := (hk0.out.below hb13 hk0.out.lt).cell 0
  have hs3 := hb13.size
  have hL' := Lib.hid hL
  have hz3 : w.heap.size < w3.heap.size := by have := z1'.out; omega
  clear hv2 hr3 hb3 hb23 hb13 hmL hL
  go_wp2_with fail
  have hD3 : Dec (w3.alloc (.cells #[.string s] 9)) d ws := ((hd'.out.below hB1'.out).below hb13'.out).below ((Below.refl _ _).alloc (Nat.le_refl _) _)
  refine (keep_any d ws [] ⟨#[]⟩ _ hD3 rfl (by simp)).mono ?_
  rintro e w4 ⟨⟨u4, rfl⟩, hD4, hO4⟩
  have hb3a : Below w1.heap.size w1 (w3.alloc (.cells #[.string s] 9)) := hb13'.out.alloc hb13'.out.size _
  have z1 := z1'.out
  have j0 := hO4.has (hk0.out.below hb3a hk0.out.lt) (by omega)
  have j1 := hO4.has (hk1.out.below hb3a hk1.out.lt) (by omega)
  have j2 := hO4.has (hk2.out.below hb3a hk2.out.lt) (by omega)
  have j3 := hO4.has (Has.new w3 9 #[.string s]) (by omega)
  have hC4 : Chg (· = d) w w4 := (Chg.of_below (hB1'.out.trans (hb3a.mono (by omega)))).trans (.only hO4 rfl)
  have hz4 : w4.heap.size = w3.heap.size + 1 := by rw [hO4.size]; simp
  have e3 := j3.cell 0
  have hM4 : WrM w d (w4.alloc (.cells #[.string s] 9)).heap.size w3.heap.size s [] [] (w4.alloc (.cells #[.string s] 9)) :=
    ⟨j0.alloc _, ⟨_, j1.alloc _, bs_nil _ _⟩, j2.alloc _, j3.alloc _, hD4.below ((Below.refl _ _).alloc (Nat.le_refl _) _), hC4.trans (.of_below ((Below.refl _ _).alloc (Nat.le_refl _) _)), Nat.le_refl _⟩
  have hM4' := Lib.hid hM4
  have hz4' := Lib.hid hz4
  have hTab4 := Lib.hid ((hT'.out.below (hB1'.out.trans (hb3a.mono (by omega)))).kept (hO4.block _ (tab_ne (hT'.out.below (hB1'.out.trans (hb3a.mono (by omega)))) hD3)))
  clear hD3 hD4 hO4 hb3a z1 j0 j1 j2 j3 hC4 hz4 hM4
  go_wp2_with fail
  go_step3
  go_wp2_with fail
  refine (readings_any _ _).mono ?_
  rintro e w5 ⟨rfl, rfl⟩
  have hbox := Lib.hid (Has.new w4 9 #[.string s])
  have hM5 := hM4'.out
  go_wp2
  have hT5 : Tab (w4.alloc (.cells #[.string s] 9)) := hTab4.out.below ((Below.refl _ _).alloc (Nat.le_refl _) _)
  have hss : s.size = mL := by have := hmL'.out; rw [← this]; simp only [Array.length_toList]; rfl
  have hzz : w.heap.size + 1 + 1 < w3.heap.size := by have := z1'.out; omega
  obtain ⟨w5, hw5⟩ : ∃ w5, w4.alloc (.cells #[.string s] 9) = w5 := ⟨_, rfl⟩
  have hz5 : w5.heap.size = w3.heap.size + 1 + 1 := by rw [← hw5]; simp [hz4'.out]
  have hz4 := hz4'.out
  have hbox := hbox.out
  have hTn := Lib.hid hT5
  rw [hw5] at hM5 hT5 hTn hbox ⊢
  have hne : 0 ≠ d := tab_ne hT'.out hd'.out
  have hg0 := hT'.out.lt
  have hss' := Lib.hid hss
  have hsz9 : s.size ≤ 9223372036854775807 := by omega
  have hsz8 : s.size ≤ 17592186044416 + 3 := by omega
  clear hss
  clear hw5 hM4' hTab4 hk0 hk1 hk2 hB1' z1' hb2' hr1' hr2' hz4' e0 e3
  refine (wpIn_wide (n := 3)).1 ?_
  refine wpIn_range_meetsH 0 rfl (by omega) (gf := 65) (lb := #[.pointer (some ⟨w4.heap.size, 0, none⟩)]) rfl trivial (enters_of Tryd.func65 (by kernel_rfl) rfl)
    (readings_stops 2 (by omega) s hsz9 w4.heap.size (fun k => k = w.heap.size + 1 ∨ k = d) w5 (fun k hk => by rcases hk with h | h <;> omega) (fun hk => by rcases hk with h | h <;> omega) (fun hk => by rcases hk with h | h <;> omega) hT5 hbox)
    (fun h k => h.trans k) (fun W l o o' _ h1 h2 _ => KeepC.putObj W l o o' h1 h2) (Below.refl _ _) (fun _ => rfl)
    (WrI w d w5.heap.size w3.heap.size s) (WrX w d w5.heap.size w3.heap.size s) (WrM w d w5.heap.size w3.heap.size s (run4 s.data.toList).2 (run4 s.data.toList).1)
    (fun pre X Y row hs hg hr => ⟨hs.1, hs.2.turn hg hr (by omega)⟩)
    (fun c pre X Y row hs hg hr => by
      obtain ⟨h1, pre', x, h2, h3, h4, h5⟩ := hs
      exact ⟨h1, pre', x, h2, h3, h4, h5.turn hg hr (by omega)⟩)
    ⟨by simp, hM5⟩ (fun _ _ => wr_all) (fun _ _ _ => wr_left)
    (AxB ?F 99 (fun x => readV (s.data.toList.drop x.val))) axB_from
    ?assign ?body (fun _ _ h => h) ?rest
  case assign =>
    intro l pre x W K hI hK
    have hK' := Lib.hid hK
    have hI' := Lib.hid hI
    clear hK hI
    have hV : readV (s.data.toList.drop x.val) = readV (s.data.toList.drop x.val) := rfl
    conv at hV => rhs; unfold readV
    have hV' := Lib.hid hV
    dsimp only [encRd]
    rw [hV'.out]
    clear hV
    gi_wp2
    obtain ⟨k, hk⟩ : ∃ k, W.heap.size = k := ⟨_, rfl⟩
    have hnew := Has.new W 99 (readV (s.data.toList.drop x.val))
    rw [hV'.out] at hnew
    rw [hk] at hnew ⊢
    refine hK'.out _ _ ((KeepsOthers.alloc _ _).from _) ((KeepC.refl _ _ _).alloc _) ⟨hI'.out.1, hI'.out.2.more ((Below.refl _ _).alloc (Nat.le_refl _) _)⟩ ⟨k, ?_, (show Has _ k _ (readV (s.data.toList.drop x.val)) from by rw [hV'.out]; exact hnew)⟩
    rfl
  case body =>
    rintro l pre x a' W hl ⟨r, hr⟩ ⟨hall, hM⟩ ⟨k, rfl, hk⟩ hlen
    have hk : Has W k 99 (readV (s.data.toList.drop x.val)) := hk
    unfold readV at hk
    have hxs : x.val < s.size := by have := x.isLt; have := hmL'.out; have := hss'.out; omega
    have hall' := Lib.hid hall
    have hM' := Lib.hid hM
    obtain ⟨m0, ⟨v, mv, mb⟩, m2, m3, mD, mC, hWn⟩ := hM
    have e0 := m0.cell 0
    have e2 := m2.cell 0
    have e3 := m3.cell 0
    have hdW : d < W.heap.size := mD.lt
    have hmv := Lib.hid mv
    have hmb := Lib.hid mb
    have hmD := Lib.hid mD
    have hr' := Lib.hid hr
    clear m0 mv mb m2 m3 mC hall hr
    by_cases hst : (lookAt s.data.toList x.val).st = 2
    · have hsh := look_short hst
      have hst' : (look (s.data.toList.drop x.val)).st = 2 := hst
      rw [hst'] at hk
      have c3 := hk.cell 3
      have hst2 := Lib.hid hst
      have hkp := Lib.hid (keep_any d [] (s.data.toList.drop x.val) (s.extract x.val s.size) W.drew hmD.out (extract_to_end s x.val) hsh.2.1)
      have hx1 : ((x.val : Nat) : Int) ≤ (s.size : Int) := by omega
      clear hst hst' hk hsh mD
      gi_wp2
      gi_region_with (gi_at_call 50; refine (CallsIn.inRound l (callsIn_wide.2 hkp.out)).mono ?_; rintro e W2 ⟨⟨u2, rfl⟩, hD2, hO2⟩)
      all_goals
        gi_wp2
        have hO3 : Only d W W2 := ⟨hO2.os, hO2.tape, hO2.output, hO2.size, hO2.block⟩
        refine ⟨(others_only hO3 hmD.out.choose_spec.choose_spec.choose_spec.2.2).from _, rfl, pre, x, rfl, hall'.out, hst2.out, hM'.out.keep hD2 hO3 hdlt (by omega) (by omega)⟩
    · have hst' : ¬ (look (s.data.toList.drop x.val)).st = 2 := hst
      have hst2 := Lib.hid hst
      have hcv := Lib.hid (conc_snoc s.data.toList (pre.map Fin.val) x.val)
      have htd : ∃ td, told (s.data.toList.drop x.val) = td := ⟨_, rfl⟩
      obtain ⟨td, htd⟩ := htd
      rw [htd] at hk
      have htd' := Lib.hid htd
      generalize (look (s.data.toList.drop x.val)).st = sv at hk hst'
      have hsv : ((sv : Int) == 2) = false := by rw [beq_eq_false_iff_ne]; omega
      have c3 := hk.cell 3
      have c1 := hk.cell 1
      have hle := Lib.hid (conc_len s.data.toList (pre.map Fin.val))
      have htl := Lib.hid (told_len (s.data.toList.drop x.val))
      have htell := Lib.hid (tell_any (w.heap.size + 1) w5.heap.size v _ ⟨td.toArray⟩ W hmv.out hmb.out hWn (by
        have h1 := hle.out
        have h2 := htl.out
        rw [htd'.out] at h2
        rw [List.length_map] at h1
        have h3 : (⟨td.toArray⟩ : ByteArray).size = td.length := by show td.toArray.size = _; simp
        omega))
      clear hst hst' hk htd mD
      gi_wp2_with (gi_at_call 51; refine (CallsIn.inRound l (callsIn_wide.2 htell.out)).mono ?_; rintro e W2 ⟨⟨u2, rfl⟩, hT2⟩)
      have hT3 : Tell (w.heap.size + 1) w5.heap.size (conc s.data.toList ((pre ++ [x]).map Fin.val)) W W2 := by
        have h1 := hcv.out
        rw [show toldAt s.data.toList x.val = td from htd'.out] at h1
        rw [List.map_append, List.map_cons, List.map_nil, h1]
        exact hT2
      have hk3 := hT3.2.2.1
      refine ⟨hT3.2.2.2.from _, ⟨hk3.size, fun j t cs h1 h2 h3 => hk3.kept j t cs h1 h2 (fun e => h3 (.inl e))⟩, ?_, hM'.out.tell hT3 (by omega) (by omega) (by omega) hdlt⟩
      intro y hy
      rcases List.mem_append.1 hy with hy | hy
      · exact hall'.out y hy
      · rw [List.mem_singleton.1 hy]; exact hst2.out
  case rest =>
    rintro D W hD hM hDn
    have hM' := Lib.hid hM
    obtain ⟨m0, ⟨v, mv, mb⟩, m2, m3, mD, mC, hWn⟩ := hM
    obtain ⟨A5, c5, rfl, hr5⟩ := mb.shape
    have hcv := hr5.text (P := Tryd.prog) 22 9 5 c5 Tryd.underlying22 Tryd.underlying5 Tryd.underlying9
    have c1 := mv.cell 0
    have hmD := Lib.hid mD
    have hmC := Lib.hid mC
    have hDn' := Lib.hid hDn
    have hDw : w.heap.size ≤ D := by omega
    have hdD : d ≠ D := by omega
    clear m0 m2 m3 mD mC mb hr5 hDn
    go_wp2
    refine ⟨by simp, .inl ⟨_, _, rfl, run_takeDeferred hDn'.out, ?_⟩⟩
    refine ⟨_, results_tmp2 (t := 4) (u := 5) rfl _ _ _, ?_⟩
    rw [hL'.out]
    exact ⟨rfl, hmD.out.kept (World.putObj_heap_other hdD), hmC.out.putObj D _ hDw⟩
end Go.Proofs.YthdmmlaahjgijaaDoor
