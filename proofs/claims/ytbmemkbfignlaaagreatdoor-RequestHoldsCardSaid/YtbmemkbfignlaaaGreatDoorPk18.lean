import Derived.Sort.QuietThIn
import Derived.Sort.QuietTacIn
import Derived.Sort.BigQuietIn
import Derived.OwnWalkIn
import Derived.Test.YtbmemkbfignlaaaGreatDoorPk1
import Derived.StillTail
import Derived.Test.YtbmemkbfignlaaaGreatDoorPk17
import Derived.Lib.SliceRun
namespace Go.Proofs.YtbmemkbfignlaaaGreatDoor

/-! ## A region that only reads, within a round of a range over a function -/

/-- No operation defers a call. -/
def calm (l : List Oper) : Bool := l.all fun o => match o.op with
  | .defer _ => false
  | _ => true
theorem calm_at {l : List Oper} {i : Nat} {o : Oper} (h : calm l = true) (hi : l.toArray[i]? = some o) : ∀ c, o.op ≠ .defer c := by
  intro c e
  have := List.all_eq_true.1 h o (by simpa using Array.mem_of_getElem? hi)
  rw [e] at this
  cases this

section
variable {F : Fence} {n : Nat} {P : Program} {l : List Oper} {C : World → Prop}
theorem wpOpIn_calm (hc : calm l = true) {i : Nat} {a : Act} {K : Act → Prop} {K' : Act → World → Prop} {Q' : Exit → Act → World → Prop} {w : World} (hC : C w) (h : ∀ a w', C w' → K a → K' a w')
    (hh : qOpIn F n P l.toArray C i K a) : wpOpIn F n P l.toArray Q' i K' a w := by
  unfold qOpIn at hh
  unfold wpOpIn
  split
  · rename_i ho
    simp only [ho] at hh
    exact h _ _ hC hh
  · rename_i o ho
    simp only [ho] at hh
    obtain ⟨ha, hh⟩ := hh
    split
    · rename_i hw
      simp only [hw, if_true] at hh
      obtain ⟨v, h1, h2⟩ := hh
      have h3 := h1 w hC
      unfold Oper.quietAtIn at h3
      refine ⟨ha w hC, ?_⟩
      rw [Oper.semAt_plain F a.eval o (calm_at hc ho)]
      generalize (execOp a.eval o).run P w = r at *
      cases r with
      | halt x w' => exact h3.elim
      | ok x w' =>
        cases x with
        | value u => obtain ⟨rfl, rfl⟩ := h3; exact h _ _ hC h2
        | skip => obtain ⟨rfl, rfl⟩ := h3; exact h _ _ hC h2
        | enter f args =>
          obtain ⟨rfl, hd, hcl⟩ := h3
          exact ⟨hd, hcl.mono fun e w'' ⟨he, hw''⟩ => by subst he; exact h _ _ hw'' h2⟩
        | _ => exact h3.elim
    · rename_i hw
      simp only [hw] at hh
      exact ⟨ha w hC, h _ _ hC hh⟩
theorem wpAnyIn_calm (hc : calm l = true) {Q : Act → Prop} {Q' : Exit → Act → World → Prop} (hQ : ∀ a w, C w → Q a → Q' .normal a w) (md : Region.Mode) : ∀ (fuel : Nat) (listed : Array Bool) (a : Act) (w : World), C w →
    wpAnyQIn F n P md l.toArray C Q fuel listed a → wpAnyIn F n P md l.toArray Q' fuel listed a w
  | 0, _, _, _, hw, h => ⟨h.1, hQ _ _ hw h.2⟩
  | fuel + 1, _, _, _, hw, h => ⟨fun h0 => hQ _ _ hw (h.1 h0), fun i hi => wpOpIn_calm hc hw (fun a' w' hw' => wpAnyIn_calm hc hQ md fuel _ a' w' hw') (h.2 i hi)⟩
theorem wpIn_region_calm {id : Nat} {Q : Exit → Act → World → Prop} {a : Act} {w : World} (hc : calm l = true) (hm : P.follows .mixedOrders = true) (hB : Region.lexB .any l.toArray = true)
    (h : wpQuietIn F n P l.toArray (fun w' => ∃ q, w' = w.drewN q) (fun a' => ∀ w', (∃ q, w' = w.drewN q) → Q .normal a' w') l a) : (Code.region id l.toArray true).wpIn F n P Q a w := by
  simp only [Region.lexB, Bool.and_eq_true] at hB
  refine wpIn_region_any hm (wpAnyIn_calm (C := fun w' => ∃ q, w' = w.drewN q) (Q := fun a' => ∀ w', (∃ q, w' = w.drewN q) → Q .normal a' w') hc (fun _ w' hw' h => h w' hw') .any _ _ _ _ ⟨1, rfl⟩ ?_)
  have := wpAnyQIn_lex (F := F) (n := n) (P := P) (C := fun w' => ∃ q, w' = w.drewN q) (md := .any) hB.1 l 0 (Array.replicate l.toArray.size false) a (by simp) (by simpa using hB.2) (by simpa using h)
  simpa using this
end
end Go.Proofs.YtbmemkbfignlaaaGreatDoor

namespace Go.Proofs.YtbmemkbfignlaaaGreatDoor
open Go.RowKit

/-! ## A region that makes memory and writes no elder one, in whatever order: walked once, in the order of the text -/
/-- What a world may have grown to, its elder blocks as they were. -/
structure Grown (w : World) where
  v : World
  below : Below w.heap.size w v
instance grownOne (w : World) : Nonempty (Grown w) := ⟨⟨w, Below.refl _ _⟩⟩
theorem wpIn_region_grow {F : Fence} {n : Nat} {P : Program} {l : List Oper} {id : Nat} {Q : Exit → Act → World → Prop} {a : Act} {w : World} (hc : calm l = true) (hm : P.follows .mixedOrders = true) (hB : Region.lexB .any l.toArray = true)
    (h : wpQuietIn F n P l.toArray (fun w' => ∃ V : Grown w, w' = V.v) (fun a' => ∀ w', (∃ V : Grown w, w' = V.v) → Q .normal a' w') l a) : (Code.region id l.toArray true).wpIn F n P Q a w := by
  simp only [Region.lexB, Bool.and_eq_true] at hB
  refine wpIn_region_any hm (wpAnyIn_calm (C := fun w' => ∃ V : Grown w, w' = V.v) (Q := fun a' => ∀ w', (∃ V : Grown w, w' = V.v) → Q .normal a' w') hc (fun _ w' hw' h => h w' hw') .any _ _ _ _ ⟨⟨w.drew, (Below.refl _ _).drew⟩, rfl⟩ ?_)
  have := wpAnyQIn_lex (F := F) (n := n) (P := P) (C := fun w' => ∃ V : Grown w, w' = V.v) (md := .any) hB.1 l 0 (Array.replicate l.toArray.size false) a (by simp) (by simpa using hB.2) (by simpa using h)
  simpa using this
/-- A call that a region may hold: its answer hangs on nothing that may have grown. -/
theorem grow_call {P : Program} {f : FuncId} {args : Array Value} {v : Value} {w : World} (V : Grown w) (h : Calls P f args V.v fun e w' => e = .returned v ∧ Below V.v.heap.size V.v w') : Calls P f args V.v fun e w'' => e = .returned v ∧ ∃ V'' : Grown w, w'' = V''.v :=
  h.mono fun _ w'' h => ⟨h.1, ⟨w'', V.below.trans (h.2.mono V.below.size)⟩, rfl⟩
end Go.Proofs.YtbmemkbfignlaaaGreatDoor

namespace Go.Proofs.YtbmemkbfignlaaaGreatDoor
open Go.RowKit

/-! ## A region that makes memory in whatever order, and then does what waits for all of that: its head walked once, its tail behind it -/
section
variable {F : Fence} {n : Nat} {P : Program} {ops : Array Oper} {md : Region.Mode} {C : World → Prop}
def wpHeadQ (F : Fence) (n : Nat) (P : Program) (md : Region.Mode) (ops : Array Oper) (C : World → Prop) (m : Nat) (L : Array Bool → Act → Prop) : Nat → Array Bool → Act → Prop
  | 0, listed, a => L listed a
  | f + 1, listed, a => Region.ready md ops listed ≠ [] ∧ ∀ i ∈ Region.ready md ops listed, i < m ∧ qOpIn F n P ops C i (wpHeadQ F n P md ops C m L f (listed.setIfInBounds i true)) a
theorem wpAnyIn_head {l : List Oper} (hc : calm l = true) {m g : Nat} {L : Array Bool → Act → Prop} {Q' : Exit → Act → World → Prop} (hL : ∀ listed a w, C w → L listed a → wpAnyIn F n P md l.toArray Q' g listed a w) :
    ∀ (f : Nat) (listed : Array Bool) (a : Act) (w : World), C w → wpHeadQ F n P md l.toArray C m L f listed a → wpAnyIn F n P md l.toArray Q' (f + g) listed a w
  | 0, listed, a, w, hC, h => by rw [Nat.zero_add]; exact hL _ _ _ hC h
  | f + 1, listed, a, w, hC, h => by
    rw [show f + 1 + g = (f + g) + 1 by omega]
    exact ⟨fun h0 => absurd h0 h.1, fun i hi => wpOpIn_calm hc hC (fun a' w' hw' h' => wpAnyIn_head hc hL f _ a' w' hw' h') (h.2 i hi).2⟩
theorem wpHeadQ_first {m i : Nat} {oi : Oper} {v : Value} {L : Array Bool → Act → Prop} (hi : ops[i]? = some oi) (hsel : ∀ (j : Nat) (o : Oper) cs b, ops[j]? = some o → o.op ≠ .select cs b)
    (hs : Region.sinkB md ops m = true) (hch : Region.chainB md ops m = true) (hn : m < ops.size) (hin : i < m)
    (hdone : ∀ listed a, L listed a → ∀ j ∈ Region.ready md ops listed, m ≤ j) :
    ∀ (f : Nat) (listed : Array Bool) (a : Act), HeadInv md ops m listed →
      (∀ j oj, ops[j]? = some oj → j ≠ i → listed.getD j true = false → (∀ e ∈ oj.after, Region.binds md e = true → e.on ≠ i) → oi.apart ops oj = true) →
      i ∈ Region.ready md ops listed → YieldsQuiet F n P ops C oi v a →
      wpHeadQ F n P md ops C m L f (listed.setIfInBounds i true) (a.put oi.dst v) → wpHeadQ F n P md ops C m L (f + 1) listed a := by
  intro f
  induction f with
  | zero =>
    intro listed a inv _ hr hy H
    have hun := (mem_ready.1 hr).1
    refine ⟨fun h => (by rw [h] at hr; cases hr), fun j hj => ?_⟩
    have hjn : j < m := by
      rcases Nat.lt_or_ge j m with h | h
      · exact h
      · exact absurd hj (tail_waits hs hch hn inv _ i rfl hin hun j h)
    refine ⟨hjn, ?_⟩
    by_cases hji : j = i
    · subst hji; exact hy.qOpIn hi H
    · have := hdone _ _ H j (ready_mono hj hji)
      omega
  | succ f ih =>
    intro listed a inv hfree hr hy H
    have hun := (mem_ready.1 hr).1
    refine ⟨fun h => (by rw [h] at hr; cases hr), fun j hj => ?_⟩
    have hjn : j < m := by
      rcases Nat.lt_or_ge j m with h | h
      · exact h
      · exact absurd hj (tail_waits hs hch hn inv _ i rfl hin hun j h)
    refine ⟨hjn, ?_⟩
    by_cases hji : j = i
    · subst hji; exact hy.qOpIn hi H
    · have h1 := (H.2 j (ready_mono hj hji)).2
      obtain ⟨hjun, oj, hoj, hall⟩ := mem_ready.1 hj
      have hnot : ∀ e ∈ oj.after, Region.binds md e = true → e.on ≠ i := fun e he hb heq => by
        have h1 := hall e he hb
        rw [heq, getD_both hun] at h1
        cases h1
      have h2 := qOpIn_put hoj (hfree j oj hoj hji hjun hnot) (fun cs b => hsel i oi cs b hi) (fun cs b => hsel j oj cs b hoj) hy h1
      have hfree' : ∀ k ok, ops[k]? = some ok → k ≠ i → (listed.setIfInBounds j true).getD k true = false →
          (∀ e ∈ ok.after, Region.binds md e = true → e.on ≠ i) → oi.apart ops ok = true := fun k ok hk hki hun hno => by
        refine hfree k ok hk hki ?_ hno
        by_cases hjk : j = k
        · subst hjk; exact hjun
        · rw [getD_set_ne true hjk] at hun; exact hun
      refine qOpIn_mono (fun a' h3 => ih (listed.setIfInBounds j true) a' (inv.set hj hjn) hfree' (ready_mono hr (Ne.symm hji)) h3.1 ?_) h2
      rw [Array.setIfInBounds_comm _ _ hji]
      exact h3.2
theorem wpHeadQ_lex {m g : Nat} {Lq : Act → Prop} (hsel : Region.noSelect ops = true) (hs : Region.sinkB md ops m = true) (hch : Region.chainB md ops m = true) (hn : m < ops.size) :
    ∀ (l : List Oper) (k : Nat) (listed : Array Bool) (a : Act), (∀ j, j < l.length → l[j]? = ops[k + j]?) → k + l.length = m → HeadInv md ops m listed →
    Region.lexHead md ops g l.length k listed = true → wpQuietIn F n P ops C Lq l a →
    wpHeadQ F n P md ops C m (fun listed' a' => Region.seqB md ops g m listed' = true ∧ Lq a') l.length listed a
  | [], k, listed, a, _, hk, _, hB, h => by
    have : k = m := by simpa using hk
    subst this
    exact ⟨by simpa [Region.lexHead] using hB, h⟩
  | o :: l, k, listed, a, hl, hk, inv, hB, h => by
    have h0 : ops[k]? = some o := by simpa using (hl 0 (by simp)).symm
    simp only [List.length_cons, Region.lexHead, Bool.and_eq_true] at hB
    obtain ⟨⟨hr, hf⟩, hB'⟩ := hB
    have hkn : k < m := by simp only [List.length_cons] at hk; omega
    have hr' : k ∈ Region.ready md ops listed := by simpa using hr
    have hst : qOpIn F n P ops C k (wpQuietIn F n P ops C Lq l) a := by unfold qOpIn; simp only [h0]; exact h
    obtain ⟨v, hy, hK⟩ := yieldsQuiet_of_qOpIn h0 hst
    exact wpHeadQ_first h0 (Region.noSelect_spec hsel) hs hch hn hkn (fun listed' a' hL => seqB_ready hL.1) l.length listed a inv (Region.free_spec h0 hf) hr' hy
      (wpHeadQ_lex hsel hs hch hn l (k + 1) _ _ (fun j hj => by have := hl (j + 1) (by simp; omega); simpa [Nat.add_assoc, Nat.add_comm 1 j] using this) (by simp only [List.length_cons] at hk; omega) (inv.set hr' hkn) hB' hK)
theorem wpAnyIn_seq {Q' : Exit → Act → World → Prop} : ∀ (l : List Oper) (k : Nat) (listed : Array Bool) (a : Act) (w : World), (∀ j, l[j]? = ops[k + j]?) →
    Region.seqB md ops l.length k listed = true → wpListIn F n P ops Q' l a w → wpAnyIn F n P md ops Q' l.length listed a w
  | [], _, _, _, _, _, hB, h => ⟨by simpa [Region.seqB] using hB, h⟩
  | o :: l, k, listed, a, w, hl, hB, h => by
    have h0 : ops[k]? = some o := by simpa using (hl 0).symm
    simp only [List.length_cons, Region.seqB, Bool.and_eq_true, decide_eq_true_eq] at hB
    refine ⟨fun h1 => (by rw [hB.1] at h1; cases h1), fun i hi => ?_⟩
    rw [hB.1] at hi
    have hik : i = k := by simpa using hi
    subst hik
    have hw : wpOpIn F n P ops Q' i (wpListIn F n P ops Q' l) a w := by unfold wpOpIn; simp only [h0]; exact h
    exact wpOpIn_mono (fun a' w' h' => wpAnyIn_seq l (i + 1) _ a' w' (fun j => by have := hl (j + 1); simpa [Nat.add_assoc, Nat.add_comm 1 j] using this) hB.2 h') hw
end
theorem wpIn_region_grow_tail {F : Fence} {n : Nat} {P : Program} {l : List Oper} {id : Nat} {Q : Exit → Act → World → Prop} {a : Act} {w : World} (m : Nat) (hc : calm l = true) (hm : P.follows .mixedOrders = true) (hB : Region.lexTailB .any l.toArray m = true)
    (h : wpQuietIn F n P l.toArray (fun w' => ∃ V : Grown w, w' = V.v) (fun a' => ∀ w', (∃ V : Grown w, w' = V.v) → wpListIn F n P l.toArray Q (l.drop m) a' w') (l.take m) a) : (Code.region id l.toArray true).wpIn F n P Q a w := by
  simp only [Region.lexTailB, Bool.and_eq_true, decide_eq_true_eq] at hB
  obtain ⟨⟨⟨⟨hsel, hn⟩, hs⟩, hch⟩, hlex⟩ := hB
  have hmn : m < l.length := by simpa using hn
  have ht : (l.take m).length = m := by simp; omega
  have hd : (l.drop m).length = l.toArray.size - m := by simp
  have inv0 : HeadInv .any l.toArray m (Array.replicate l.toArray.size false) := by
    refine ⟨by simp, fun j oj _ hl => ?_, fun t _ ht' => ?_⟩
    · rw [getD_replicate_false] at hl
      cases hl
    · simp at ht'
      simp [ht']
  have hh := wpHeadQ_lex (F := F) (n := n) (P := P) (C := fun w' => ∃ V : Grown w, w' = V.v) (md := .any) (ops := l.toArray) (m := m) (g := l.toArray.size - m) hsel hs hch hn (l.take m) 0 _ a
    (fun j hj => by rw [List.getElem?_take_of_lt (by omega)]; simp) (by omega) inv0 (by rw [ht]; exact hlex) h
  have hall := wpAnyIn_head (g := l.toArray.size - m) hc (Q' := Q) (fun listed a' w' hC hL => ?_) _ _ _ w.drew ⟨⟨w.drew, (Below.refl _ _).drew⟩, rfl⟩ hh
  · refine wpIn_region_any hm ?_
    have e : (l.take m).length + (l.toArray.size - m) = l.toArray.size := by rw [ht]; simp; omega
    rw [e] at hall
    exact hall
  · have := wpAnyIn_seq (F := F) (n := n) (P := P) (md := .any) (ops := l.toArray) (Q' := Q) (l.drop m) m listed a' w' (fun j => by simp) (by rw [hd]; exact hL.1) (hL.2 w' hC)
    rw [hd] at this
    exact this
end Go.Proofs.YtbmemkbfignlaaaGreatDoor

namespace Go.Proofs.YtbmemkbfignlaaaGreatDoor
open Go.RowKit Go.Shelf
attribute [local go_sem] Oper.semAt_some

/-! ## Headers in memory -/
theorem hdsC_inv : ∀ (qs : List PairL) (j : Nat) (u : Value), (prsC qs)[j]? = some u → ∃ (i : Nat) (q : PairL), qs[i]? = some q ∧ (j = i * 2 ∧ u = .string ⟨q.1.toArray⟩ ∨ j = i * 2 + 1 ∧ u = .string ⟨q.2.toArray⟩)
  | [], j, u, h => by simp [prsC] at h
  | q :: r, 0, u, h => by
    obtain rfl : Value.string ⟨q.1.toArray⟩ = u := by simpa [prsC] using h
    exact ⟨0, q, rfl, .inl ⟨rfl, rfl⟩⟩
  | q :: r, 1, u, h => by
    obtain rfl : Value.string ⟨q.2.toArray⟩ = u := by simpa [prsC] using h
    exact ⟨0, q, rfl, .inr ⟨rfl, rfl⟩⟩
  | q :: r, j + 2, u, h => by
    have h' : (prsC r)[j]? = some u := h
    obtain ⟨i, x, hx, ⟨rfl, rfl⟩ | ⟨rfl, rfl⟩⟩ := hdsC_inv r j u h'
    · exact ⟨i + 1, x, hx, .inl ⟨by omega, rfl⟩⟩
    · exact ⟨i + 1, x, hx, .inr ⟨by omega, rfl⟩⟩
def HdsO (W : World) (n0 : Nat) (v : Value) (l : List PairL) : Prop := W.ownsRow n0 56 2 v l.length (prsC l)
theorem hdsO_nil (W : World) (n0 : Nat) : HdsO W n0 (.slice none 0 0) [] := ⟨rfl, .inl ⟨rfl, rfl⟩⟩
section
variable {W W' : World} {n0 : Nat} {v : Value} {l : List PairL}
theorem HdsO.prs (h : HdsO W n0 v l) : ∃ A c, v = .slice A l.length c ∧ Prs W A l := by
  have hh := h
  rcases h.2 with ⟨rfl, h0⟩ | ⟨g, cap, cur, rfl, hb, hg, _⟩
  · exact ⟨none, 0, by rw [h0], fun hl => by omega⟩
  · refine ⟨_, cap, rfl, fun _ => ⟨g, 0, rfl, (Array.getElem?_eq_some_iff.1 hg).1, fun i x hx => ?_⟩⟩
    have c := fun j u hu => World.ownsRow.cells (g := g) hh rfl j u hu
    simp only [add_zero_] at c
    obtain ⟨h1, h2⟩ := prsC_get l i x hx
    exact ⟨c _ _ h1, by have := c _ _ h2; rwa [← Nat.add_assoc] at this⟩
theorem HdsO.own (h : HdsO W n0 v l) : ∀ g, v.ownBlock = some g → n0 ≤ g ∧ ∃ cs, Has W g 56 cs := by
  intro g hg
  rcases h.2 with ⟨rfl, _⟩ | ⟨g', cap, cur, rfl, hb, hh, r⟩
  · cases hg
  · obtain rfl : g' = g := by simpa [Value.ownBlock] using hg
    exact ⟨hb, cur, hh⟩
theorem HdsO.kept (h : HdsO W n0 v l) (k : ∀ g, v.ownBlock = some g → W'.heap[g]? = W.heap[g]?) : HdsO W' n0 v l := by
  refine ⟨h.1, ?_⟩
  rcases h.2 with h | ⟨g, cap, cur, rfl, hb, hg, r⟩
  · exact .inl h
  · exact .inr ⟨g, cap, cur, rfl, hb, (k g rfl).trans hg, r⟩
theorem HdsO.below (h : HdsO W n0 v l) (hb : Below W.heap.size W W') : HdsO W' n0 v l := h.kept fun g hg => hb.block g (h.own g hg).2.choose_spec.lt
theorem HdsO.grew {g : Nat} (h : HdsO W n0 v l) (hb : Grew g W W') (hg : g < n0) : HdsO W' n0 v l :=
  h.kept fun k e => by
    obtain ⟨h1, _, h2⟩ := h.own k e
    exact hb.block k h2.lt (by omega)
end
theorem infoHdr : (Tryz.prog.info? 56).map (fun i => (i.zero, i.size, i.bytes)) = some (some (.agg #[.string ⟨#[]⟩, .string ⟨#[]⟩]), 2, 32) := by kernel_rfl
theorem wpList_append_hdr {w : World} {ops : Array Oper} {rest : List Oper} {o : Oper} {a : Act} {Q : Exit → Act → World → Prop} {n0 : Nat} {v : Value} {l : List PairL} (hgd : o.guard = none) (s x : Operand) (ho : o.op = .call { callee := .builtin .append, args := #[s, x], argTypes := #[26, 26] }) (hsv : a.eval s = v) (hv : HdsO w n0 v l)
    (k : Nat) (q : PairL) (hxv : a.eval x = .slice (some ⟨k, 0, none⟩) 1 1) (hx : Has w k 56 #[.string ⟨q.1.toArray⟩, .string ⟨q.2.toArray⟩]) (hs : l.length + 1 ≤ 1000000) (hn : n0 ≤ w.heap.size)
    (h : ∀ v' w', HdsO w' n0 v' (l ++ [q]) → w.grownBy w' v.ownBlock → wpList Tryz.prog ops Q rest (a.put o.dst v') w') : wpList Tryz.prog ops Q (o :: rest) a w := by
  obtain ⟨i, hi, hz, hz1, hz2⟩ := info_parts infoHdr
  refine wpList_append_own_at w hgd s x 26 ho n0 56 i _ 2 32 Tryz.underlying26 hi hz hz1 hz2 rfl (by decide) v l.length (prsC l) hsv hv ⟨k, 0, none⟩ 1 1 (prsC [q]) hxv rfl (fun j u hu => ?_) (prsC_one _) (by simp only [maxLen]; omega) (by omega) hn (fun v' w' h1 h2 _ _ => h v' w' ?_ h2)
  · rw [add_zero_, Nat.zero_add, hx.cell]
    simpa [prsC] using hu
  · unfold HdsO
    rw [List.length_append, List.length_singleton, prsC_append]
    exact h1
theorem wpList_append_hdrs {w : World} {ops : Array Oper} {rest : List Oper} {o : Oper} {a : Act} {Q : Exit → Act → World → Prop} {n0 : Nat} {v : Value} {l : List PairL} (hgd : o.guard = none) (s x : Operand) (ho : o.op = .call { callee := .builtin .append, args := #[s, x], argTypes := #[26, 26] }) (hsv : a.eval s = v) (hv : HdsO w n0 v l)
    (ad : Addr) (c : Nat) (qs : List PairL) (hxv : a.eval x = .slice (some ad) qs.length c) (hx : ∀ (j : Nat) (u : Value), (prsC qs)[j]? = some u → w.cell? (ad.add j) = some u) (hs : l.length + qs.length ≤ 1000000) (hn : n0 ≤ w.heap.size)
    (h : ∀ v' w', HdsO w' n0 v' (l ++ qs) → w.grownBy w' v.ownBlock → wpList Tryz.prog ops Q rest (a.put o.dst v') w') : wpList Tryz.prog ops Q (o :: rest) a w := by
  obtain ⟨i, hi, hz, hz1, hz2⟩ := info_parts infoHdr
  have hlen : (prsC qs).length = qs.length * 2 := by
    clear hx hs hxv h
    induction qs with
    | nil => rfl
    | cons q r ih => show (prsC r).length + 1 + 1 = _; rw [ih, List.length_cons]; omega
  refine wpList_append_own_at w hgd s x 26 ho n0 56 i _ 2 32 Tryz.underlying26 hi hz hz1 hz2 rfl (by decide) v l.length (prsC l) hsv hv ad qs.length c (prsC qs) hxv hlen hx (prsC_one _) (by simp only [maxLen]; omega) (by omega) hn (fun v' w' h1 h2 _ _ => h v' w' ?_ h2)
  · unfold HdsO
    rw [List.length_append, prsC_append]
    exact h1
set_option maxRecDepth 100000 in
set_option maxHeartbeats 2000000 in
theorem cloneHdrs_any (A : Option Addr) (c : Nat) (qs : List PairL) (w : World) (hx : Prs w A qs) (hl : qs.length ≤ 900000) : Calls Tryz.prog 147 #[.slice A qs.length c] w fun e w' => (∃ v, e = .returned v ∧ HdsO w' w.heap.size v qs) ∧ Below w.heap.size w w' := by
  cases A with
  | none =>
    have h0 : qs = [] := by
      rcases Nat.eq_zero_or_pos qs.length with h | h
      · exact List.length_eq_zero_iff.1 h
      · obtain ⟨_, _, e, _⟩ := hx h
        cases e
    subst h0
    have hq : ∀ w : World, (binOp .eql 26 (.slice none 0 c) (.slice none 0 0)).run Tryz.prog w = .ok (.bool true) w := fun w => Lib.run_eql_slice_nil w _ _ none 0 c 0 0 Tryz.underlying26
    clear hx
    go_enter Tryz.func147, Tryz.ntmps147
    go_wp2
    go_ret
    exact ⟨⟨_, rfl, hdsO_nil _ _⟩, Below.refl _ _⟩
  | some ad =>
    have hcs' : Hid (∀ (j : Nat) (u : Value), (prsC qs)[j]? = some u → w.cell? (ad.add j) = some u) := Lib.hid (fun j u hu => by
      obtain ⟨i, q, hq, hj⟩ := hdsC_inv qs j u hu
      obtain ⟨b, o, e, _, hc⟩ := hx (by have := (List.getElem?_eq_some_iff.1 hq).1; omega)
      injection e with e
      subst e
      rw [add_zero_]
      rcases hj with ⟨rfl, rfl⟩ | ⟨rfl, rfl⟩
      · exact (hc i q hq).1
      · rw [← Nat.add_assoc]
        exact (hc i q hq).2)
    have hq : ∀ w : World, (binOp .eql 26 (.slice (some ad) qs.length c) (.slice none 0 0)).run Tryz.prog w = .ok (.bool false) w := fun w => Lib.run_eql_slice_nil w _ _ (some ad) qs.length c 0 0 Tryz.underlying26
    clear hx
    have hown : HdsO (w.alloc (.cells #[] 56)) w.heap.size (.slice (some ⟨w.heap.size, 0, none⟩) 0 0) [] := World.ownsRow_made w #[] 0 (Nat.le_refl _) (Nat.zero_le _) (by simp)
    have hown' := Lib.hid hown
    clear hown
    go_enter Tryz.func147, Tryz.ntmps147
    go_wp2_with (at_builtin; refine wpList_append_hdrs rfl _ _ rfl rfl hown'.out ad c qs rfl (fun j u hu => Lib.cell?_alloc_some _ (hcs'.out j u hu)) (by simp; omega) (by simp) ?_; intro v8 w8 ho8 hg8; have ho8' := Lib.hid ho8; have hg8' := Lib.hid hg8; clear ho8 hg8)
    go_ret
    exact ⟨⟨_, rfl, ho8'.out⟩, ((Below.refl _ w).alloc (Nat.le_refl _) _).grown hg8'.out (by simp) (fun g e => (hown'.out.own g e).1)⟩
end Go.Proofs.YtbmemkbfignlaaaGreatDoor
