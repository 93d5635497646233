import Derived.Test.YtlcfpnegpihicaaGreatDoorPw21
import Derived.Test.YtlcfpnegpihicaaGreatDoorPw16
namespace Go.Proofs.YtlcfpnegpihicaaGreatDoor
open Go.RowKit Go.Shelf

/-! ## What is said, one by one, each with its number: mathematics -/
def numS (n : Nat) : List Sd → List (Nat × Sd)
  | [] => []
  | x :: r => (n, x) :: numS (n + 1) r
theorem numS_snoc : ∀ (l : List Sd) (n : Nat) (x : Sd), numS n (l ++ [x]) = numS n l ++ [(n + l.length, x)]
  | [], n, x => by simp [numS]
  | y :: r, n, x => by
    show (n, y) :: numS (n + 1) (r ++ [x]) = _
    rw [numS_snoc r (n + 1) x]
    simp [numS]
    omega
theorem numS_len : ∀ (l : List Sd) (n : Nat), (numS n l).length = l.length
  | [], _ => rfl
  | _ :: r, n => by simp [numS, numS_len r (n + 1)]
theorem numS_snd : ∀ (l : List Sd) (n : Nat), (numS n l).map (·.2) = l
  | [], _ => rfl
  | x :: r, n => by simp only [numS, List.map_cons, numS_snd r (n + 1)]
theorem numS_append : ∀ (a b : List Sd) (n : Nat), numS n (a ++ b) = numS n a ++ numS (n + a.length) b
  | [], b, n => by simp [numS]
  | x :: a, b, n => by
    simp only [List.cons_append, numS, numS_append a b (n + 1), List.length_cons]
    rw [show n + 1 + a.length = n + (a.length + 1) by omega]
theorem steps_snoc (most : Nat) (s : PrS) (a : List FdT) (f : FdT) : stepsP most s (a ++ [f]) = ((doP most (stepsP most s a).1 f).1, (stepsP most s a).2 ++ (doP most (stepsP most s a).1 f).2.toList) := by
  rw [stepsP_append]
  simp [stepsP]
theorem steps_pre (most : Nat) (s : PrS) (fs : List FdT) (k : Nat) : ∃ B, (stepsP most s fs).2 = (stepsP most s (fs.take k)).2 ++ B := by
  refine ⟨(stepsP most (stepsP most s (fs.take k)).1 (fs.drop k)).2, ?_⟩
  conv => lhs; rw [← List.take_append_drop k fs, stepsP_append]
theorem sdN_ok : SdOk sdN := ⟨by decide, by decide, by decide, by decide, by decide⟩
theorem wf64 {n : Int} (h : Is64 n) : (Lit.int .u64 n).wf = true := by
  obtain ⟨h1, h2⟩ := h
  have e1 : IntKind.u64.min = 0 := by decide
  have e2 : IntKind.u64.max = 18446744073709551615 := by decide
  simp only [Lit.wf, Bool.and_eq_true, decide_eq_true_eq, e1, e2]
  exact ⟨h1, by omega⟩
theorem numR_64 (l : List UInt8) : Is64 (numR 10 l).1 := by
  unfold numR
  split
  · exact goesR_64 ⟨by decide, by decide⟩ l
  · exact ⟨by decide, by decide⟩
/-- What a field says may be compared, and is something. -/
theorem doP_said {most line : Nat} {s : PrS} {f : FdT} (h : s.ok most line) (hm : most ≤ 65536) (hl : line ≤ 65536) (hll : s.last.length ≤ 1000000) {x : Sd} (hx : (doP most s f).2 = some x) : SdOk x ∧ x ≠ sdN := by
  unfold doP at hx
  have hk := h.k3
  have hd := h.d2
  have ht : (trimD s.data).length ≤ s.data.length := by
    unfold trimD
    split
    · simp
    · exact Nat.le_refl _
  split at hx
  · cases hx
  split at hx
  · simp only at hx
    unfold finD at hx
    split at hx
    · obtain rfl := Option.some.inj hx
      exact ⟨⟨by decide, by decide, by decide, by decide, by decide⟩, by decide⟩
    · split at hx
      · cases hx
      · obtain rfl := Option.some.inj hx
        refine ⟨⟨by show (Lit.int .i64 1).wf = true; decide, by show (Lit.int .u64 0).wf = true; decide, hll, by show s.kind.length ≤ _; omega, by show (trimD s.data).length ≤ _; omega⟩, fun e => ?_⟩
        have := congrArg Prod.fst e
        exact absurd (show (1 : Int) = 0 from this) (by decide)
  split at hx
  · cases hx
  split at hx
  · cases hx
  split at hx
  · cases hx
  split at hx
  · obtain rfl := Option.some.inj hx
    refine ⟨⟨by show (Lit.int .i64 2).wf = true; decide, wf64 (numR_64 f.2.2), by show 0 ≤ 1000000; decide, by show 0 ≤ 1000000; decide, by show 0 ≤ 1000000; decide⟩, fun e => ?_⟩
    have := congrArg Prod.fst e
    exact absurd (show (2 : Int) = 0 from this) (by decide)
  · cases hx
theorem doP_last {most line : Nat} {s : PrS} {f : FdT} (hf : FldOk line f) (hl : line ≤ 65536) (hll : s.last.length ≤ 1000000) : (doP most s f).1.last.length ≤ 1000000 := by
  have := hf.len
  unfold doP
  split
  · exact hll
  split
  · exact hll
  split
  · unfold putD
    split
    · exact hll
    · split <;> exact hll
  split
  · exact hll
  split
  · show f.2.2.length ≤ _; omega
  split
  · exact hll
  · exact hll
theorem stepsP_last {most line : Nat} (hl : line ≤ 65536) : ∀ (fs : List FdT) (s : PrS), s.last.length ≤ 1000000 → (∀ f ∈ fs, FldOk line f) → (stepsP most s fs).1.last.length ≤ 1000000
  | [], _, h, _ => h
  | f :: r, s, h, hf => stepsP_last hl r _ (doP_last (hf f (by simp)) hl h) (fun g hg => hf g (by simp [hg]))
end Go.Proofs.YtlcfpnegpihicaaGreatDoor

namespace Go.Proofs.YtlcfpnegpihicaaGreatDoor
open Go.RowKit Go.Shelf
attribute [local go_sem] Oper.semAt_some
attribute [local go_sem] wide_fn wide_depth wide_round

/-! ## What comes of fields, with its number -/
def encS (y : Nat × Sd) : Array Value := #[.int .i64 (y.1 : Int), .agg (sdC y.2)]
/-- What goes on below such an iterator: below B nothing but Ch turns, and no row of what is said. -/
structure Eff (B : Nat) (Ch : Nat → Prop) (a b : World) : Prop where
  os : b.os = a.os
  tape : b.tape = a.tape
  output : b.output = a.output
  size : a.heap.size ≤ b.heap.size
  low : ∀ k, k < B → k < a.heap.size → ¬ Ch k → b.heap[k]? = a.heap[k]?
  high : ∀ k cs fr, a.heap[k]? = some (.cells cs 40 fr) → ¬ Ch k → b.heap[k]? = some (.cells cs 40 fr)
section
variable {B : Nat} {Ch : Nat → Prop} {a b c : World}
theorem Eff.refl (B : Nat) (Ch : Nat → Prop) (a : World) : Eff B Ch a a := ⟨rfl, rfl, rfl, Nat.le_refl _, fun _ _ _ _ => rfl, fun _ _ _ h _ => h⟩
theorem Eff.trans (h : Eff B Ch a b) (k : Eff B Ch b c) : Eff B Ch a c :=
  ⟨k.os.trans h.os, k.tape.trans h.tape, k.output.trans h.output, Nat.le_trans h.size k.size, fun i hi hl hn => (k.low i hi (Nat.lt_of_lt_of_le hl h.size) hn).trans (h.low i hi hl hn), fun i cs fr h1 h2 => k.high i cs fr (h.high i cs fr h1 h2) h2⟩
theorem Eff.below (h : Below a.heap.size a b) : Eff B Ch a b := ⟨h.os, h.tape, h.output, h.size, fun k _ hl _ => h.block k hl, fun k cs fr h1 _ => (h.block k (Array.getElem?_eq_some_iff.1 h1).1).trans h1⟩
theorem Eff.chg {S : Nat → Prop} (h : Chg S a b) (hS : ∀ k, S k → k < a.heap.size → ¬ Ch k → B ≤ k ∧ ∃ o : Obj, a.heap[k]? = some o ∧ ∀ cs fr, o ≠ .cells cs 40 fr) : Eff B Ch a b :=
  ⟨h.os, h.tape, h.output, h.size, fun k hk hl hn => h.block k hl (fun hs => by have := (hS k hs hl hn).1; omega), fun k cs fr h1 hn => by
    have hl := (Array.getElem?_eq_some_iff.1 h1).1
    refine (h.block k hl (fun hs => ?_)).trans h1
    obtain ⟨_, o, ho, hne⟩ := hS k hs hl hn
    rw [h1] at ho
    exact hne _ _ (Option.some.inj ho).symm⟩
theorem Eff.putObj {l : Nat} {o : Obj} (o' : Obj) (hB : B ≤ l) (hl : a.heap[l]? = some o) (hc : o.isCells = false) : Eff B Ch a (a.putObj l o') :=
  ⟨rfl, rfl, rfl, by simp [World.putObj], fun k hk _ _ => World.putObj_heap_other (by omega), fun k cs fr h1 _ => (World.putObj_heap_other (fun e => by
    subst e
    rw [hl] at h1
    rw [Option.some.inj h1] at hc
    cases hc)).trans h1⟩
theorem Eff.down {B' : Nat} (h : Eff B' Ch a b) (hB : B ≤ B') : Eff B Ch a b := ⟨h.os, h.tape, h.output, h.size, fun k hk => h.low k (by omega), h.high⟩
end
/-- What the caller's round must leave alone. -/
structure KeepO (n1 : Nat) (WrO : Nat → Prop) (W W' : World) : Prop where
  size : W.heap.size ≤ W'.heap.size
  low : ∀ k, k < n1 → ¬ WrO k → W'.heap[k]? = W.heap[k]?
  high : ∀ k cs t fr, W.heap[k]? = some (.cells cs t fr) → t ≠ 40 → ¬ WrO k → W'.heap[k]? = some (.cells cs t fr)
def SeqG (n : Nat) (P : Program) (gf : Nat) (lb : Array Value) (Ch WrO : Nat → Prop) (S Sp : List (Nat × Sd) → Prop) (Fin : World → Prop) (N : Nat) (w : World) : Prop :=
  ∀ (l : Nat) (J Jx : Nat → List (Nat × Sd) → World → Prop) (W : World), Below w.heap.size w W → (∀ n1, W.heap.size ≤ n1 → J n1 [] W) → (∀ n1 pre X Y, J n1 pre X → Eff W.heap.size Ch X Y → J n1 pre Y) → (∀ n1 pre X Y, Jx n1 pre X → Eff W.heap.size Ch X Y → Jx n1 pre Y) →
    (∀ n1 pre x V, W.heap.size ≤ n1 → n1 ≤ V.heap.size → J n1 pre V → pre.length < N → Sp (pre ++ [x]) → YieldAt Fence.wide (n - 1) P l (encS x) V fun e V' => KeepsFrom W.heap.size V V' ∧
      ((e = .returned (.bool true) ∧ J n1 (pre ++ [x]) V' ∧ KeepO n1 WrO V V') ∨ (e = .returned (.bool false) ∧ Jx n1 (pre ++ [x]) V'))) →
    CallsIn Fence.wide n P gf (#[.func (.yield l) #[] #[]] ++ lb) W fun e V => (∃ v, e = .returned v) ∧ ∃ n1, W.heap.size ≤ n1 ∧ ((∃ xs, S xs ∧ J n1 xs V ∧ Fin V) ∨ (∃ pre, Sp pre ∧ Jx n1 pre V))
/-- How a parser stands, told of at n1: whose row Data's is. -/
def PrAt (V : World) (p sp l m nb n1 : Nat) (od : Option Nat) (s : PrS) : Prop :=
  ∃ dv, Has V p 71 (prC sp dv s l m) ∧ Bs V nb dv s.data ∧ (dv.ownBlock = none ∨ dv.ownBlock = od ∨ ∃ k, dv.ownBlock = some k ∧ n1 ≤ k)
theorem PrAt.below {V V' : World} {p sp l m nb n1 : Nat} {od : Option Nat} {s : PrS} (h : PrAt V p sp l m nb n1 od s) (hb : Below V.heap.size V V') : PrAt V' p sp l m nb n1 od s := by
  obtain ⟨dv, h1, h2, h3⟩ := h
  exact ⟨dv, h1.below hb h1.lt, h2.below hb, h3⟩
theorem PrAt.put {V : World} {p sp l m nb n1 : Nat} {od : Option Nat} {s : PrS} (h : PrAt V p sp l m nb n1 od s) {j : Nat} {o : Obj} (o' : Obj) (hj : V.heap[j]? = some o) (hc : o.isCells = false) : PrAt (V.putObj j o') p sp l m nb n1 od s := by
  obtain ⟨dv, h1, h2, h3⟩ := h
  refine ⟨dv, Has.putNon h1 o' hj hc, h2.kept (fun g hg => ?_), h3⟩
  obtain ⟨_, _, hh⟩ := h2.own g hg
  exact (Has.putNon hh o' hj hc).trans hh.symm
theorem PrAt.keep {V V' : World} {p sp l m nb n1 : Nat} {od : Option Nat} {s : PrS} {WrO : Nat → Prop} (h : PrAt V p sp l m nb n1 od s) (hk : KeepO n1 WrO V V') (hp : ¬ WrO p) (ho : ∀ k, od = some k → ¬ WrO k) (hW : ∀ k, WrO k → k < n1) : PrAt V' p sp l m nb n1 od s := by
  obtain ⟨dv, h1, h2, h3⟩ := h
  refine ⟨dv, hk.high _ _ _ _ h1 (by decide) hp, h2.kept (fun g hg => ?_), h3⟩
  obtain ⟨_, _, hh⟩ := h2.own g hg
  refine (hk.high _ _ _ _ hh (by decide) (fun hw => ?_)).trans hh.symm
  rcases h3 with h3 | h3 | ⟨k, h3, h4⟩
  · rw [hg] at h3; cases h3
  · exact ho g (h3.symm.trans hg) hw
  · rw [hg] at h3
    obtain rfl := Option.some.inj h3
    have := hW _ hw
    omega
end Go.Proofs.YtlcfpnegpihicaaGreatDoor

namespace Go.Proofs.YtlcfpnegpihicaaGreatDoor
open Go.RowKit Go.Shelf
attribute [local go_sem] Oper.semAt_some
attribute [local go_sem] wide_fn wide_depth wide_round

/-! ## A range over what comes of fields -/
set_option maxHeartbeats 1000000 in
theorem wpIn_range_gather {n : Nat} {P : Program} {g : Operand} {ps : Array Tmp} {assign body : Code} {Q : Exit → Act → World → Prop} {a : Act} {w : World}
    {gf : Nat} {lb : Array Value} (hg : a.eval g = .func (.func gf) #[] lb) (eg : ∀ args w, (callFunc gf args).run P w = .ok (.enter gf args) w)
    {Ch WrO : Nat → Prop} {S Sp : List (Nat × Sd) → Prop} {Fin : World → Prop} {N : Nat} {w0 : World} (hseq : SeqG (n - 1) P gf lb Ch WrO S Sp Fin N w0)
    (hb0 : Below w0.heap.size w0 w) (hps : ∀ x, (encS x).size = ps.size) (hCh : ∀ k, Ch k → k < w.heap.size)
    (I : Nat → List (Nat × Sd) → World → Prop) (Ix : Nat → Code → List (Nat × Sd) → World → Prop)
    (hI : ∀ n1 pre X Y, I n1 pre X → Eff w.heap.size Ch X Y → I n1 pre Y) (hIx : ∀ n1 c pre X Y, Ix n1 c pre X → Eff w.heap.size Ch X Y → Ix n1 c pre Y) (hFp : ∀ X l o o', Fin X → X.heap[l]? = some o → o.isCells = false → Fin (X.putObj l o'))
    (h0 : ∀ n1, w.heap.size ≤ n1 → I n1 [] w) (Ax : Nat × Sd → Act → World → Prop) (hAx : ∀ x a' (W : World) (l : Nat) (o o' : Obj), Ax x a' W → W.heap[l]? = some o → o.isCells = false → Ax x a' (W.putObj l o'))
    (hassign : ∀ (l : Nat) (x : Nat × Sd) (W : World) (K : Act → World → Prop), (∀ a' W', Below W.heap.size W W' → Ax x a' W' → K a' W') →
      assign.wpIn (Fence.wide.inRound l) (n - 1 - 1) P (Exit.then K (fun _ _ _ => False)) { tmps := (ps.zip (encS x)).foldl (fun t (p, v) => t.setIfInBounds p v) a.tmps, defers := [] } W)
    (hbody : ∀ (l n1 : Nat) (pre : List (Nat × Sd)) (x : Nat × Sd) (a' : Act) (W : World), w.heap.size ≤ l → (∃ r, W.heap[l]? = some (.loop r)) → w.heap.size + 2 ≤ n1 → n1 ≤ W.heap.size → I n1 pre W → Ax x a' W → pre.length < N → Sp (pre ++ [x]) → body.wpIn (Fence.wide.inRound l) (n - 1 - 1) P (ownPostG w.heap.size (KeepO n1 (fun k => WrO k ∨ k = l)) (I n1) (Ix n1) (pre ++ [x]) W) a' W)
    (hall : ∀ (D n1 : Nat) (xs : List (Nat × Sd)) (W : World), w.heap.size ≤ D → S xs → I n1 xs W → Fin W → NoCalls W D → Q .normal { a with defers := { target := .collected D, args := #[] } :: a.defers } W)
    (hleft : ∀ (D n1 : Nat) (c : Code) (pre : List (Nat × Sd)) (W : World), w.heap.size ≤ D → Sp pre → Ix n1 c pre W → NoCalls W D → c.wpIn Fence.wide n P Q { a with defers := { target := .collected D, args := #[] } :: a.defers } W) :
    (Code.rangeFunc g ps assign body).wpIn Fence.wide n P Q a w := by
  refine wpIn_rangeFunc fun fn hfn => ?_
  obtain ⟨rc, hrc⟩ : ∃ rc : LoopState → Option Code → Loop, rc = fun st pe => { state := st, pending := pe, fn, tmps := a.tmps, params := ps, assign, body, defers := w.heap.size } := ⟨_, rfl⟩
  obtain ⟨V, hV⟩ : ∃ V, (w.alloc (.deferred (some []))).alloc (.loop (rc .ready none)) = V := ⟨_, rfl⟩
  have zV : V.heap.size = w.heap.size + 1 + 1 := by rw [← hV]; simp
  have lr : V.heap[w.heap.size + 1]? = some (.loop (rc .ready none)) := by rw [← hV]; have := World.alloc_heap_new (w.alloc (.deferred (some []))) (.loop (rc .ready none)); rwa [World.size_alloc] at this
  have ld : V.heap[w.heap.size]? = some (.deferred (some [])) := by rw [← hV]; exact (Below.heap_alloc _ _ _ (by simp)).trans (World.alloc_heap_new w _)
  have hbV : Below w0.heap.size w0 V := by rw [← hV]; exact hb0.trans ((((Below.refl _ w).alloc (Nat.le_refl _) _).alloc (by simp) _).mono hb0.size)
  refine ⟨w.heap.size + 1, [{ target := .collected w.heap.size, args := #[] }], V, { target := .fn (.func gf) lb, args := #[.func (.yield (w.heap.size + 1)) #[] #[]] }, V, gf, #[.func (.yield (w.heap.size + 1)) #[] #[]] ++ lb, V, ?_, ?_, fun _ _ => trivial, ?_, fun h => (by cases h), ?_⟩
  · rw [← hV, hrc]; exact run_enterLoop_outer _ _ _ _ _
  · simp only [resolve, hg]; simp [go_sem]
  · simp [invoke, go_sem, eg]
  have hbwV : Below w.heap.size w V := by rw [← hV]; exact ((Below.refl _ w).alloc (Nat.le_refl _) _).alloc (by simp) _
  · refine (hseq (w.heap.size + 1) (fun n1 pre W => I n1 pre W ∧ W.heap[w.heap.size + 1]? = some (.loop (rc .ready none)) ∧ W.heap[w.heap.size]? = some (.deferred (some [])))
      (fun n1 pre W => ∃ c, Ix n1 c pre W ∧ W.heap[w.heap.size + 1]? = some (.loop (rc .done (some c))) ∧ W.heap[w.heap.size]? = some (.deferred (some []))) V hbV
      (fun n1 hn1 => ⟨hI _ _ _ _ (h0 n1 (by omega)) (Eff.below hbwV), lr, ld⟩)
      (fun n1 s X Y hs he => ⟨hI n1 s X Y hs.1 (he.down (by omega)), (he.low _ (by omega) (Array.getElem?_eq_some_iff.1 hs.2.1).1 (fun h => by have := hCh _ h; omega)).trans hs.2.1, (he.low _ (by omega) (Array.getElem?_eq_some_iff.1 hs.2.2).1 (fun h => by have := hCh _ h; omega)).trans hs.2.2⟩)
      (fun n1 s X Y hs he => by
        obtain ⟨c, h1, h2, h3⟩ := hs
        exact ⟨c, hIx n1 c s X Y h1 (he.down (by omega)), (he.low _ (by omega) (Array.getElem?_eq_some_iff.1 h2).1 (fun h => by have := hCh _ h; omega)).trans h2, (he.low _ (by omega) (Array.getElem?_eq_some_iff.1 h3).1 (fun h => by have := hCh _ h; omega)).trans h3⟩) ?_).mono ?_
    · rintro n1 pre x X hn1 hsz ⟨hi, hl, hd⟩ hlen hspx
      have hy := run_yield (P := P) (args := encS x) hl (by rw [hrc]; exact hps x)
      rw [hrc] at hy
      refine ⟨fn, _, assign, body, hy, roundIn_of_wpIn hfn (hassign _ x X _ (fun a' W' hbW hax => ?_))⟩
      have hlX := hl
      have hzX := hbW.size
      have hl : W'.heap[w.heap.size + 1]? = some (.loop (rc .ready none)) := (hbW.block _ (Array.getElem?_eq_some_iff.1 hlX).1).trans hlX
      have hd : W'.heap[w.heap.size]? = some (.deferred (some [])) := (hbW.block _ (Array.getElem?_eq_some_iff.1 hd).1).trans hd
      have hi := hI _ _ _ _ hi (Eff.below hbW)
      refine ⟨_, run_beginRound hl (by rw [hrc]), ?_⟩
      have hlt : w.heap.size + 1 < W'.heap.size := (Array.getElem?_eq_some_iff.1 hl).1
      obtain ⟨Y, hY⟩ : ∃ Y, W'.putObj (w.heap.size + 1) (.loop { rc .ready none with state := .busy }) = Y := ⟨_, rfl⟩
      rw [hY]
      have yl : Y.heap[w.heap.size + 1]? = some (.loop { rc .ready none with state := .busy }) := by rw [← hY]; exact World.putObj_heap_same hlt
      have yd : Y.heap[w.heap.size]? = some (.deferred (some [])) := by rw [← hY]; exact (World.putObj_heap_other (by omega)).trans hd
      have yi : I n1 pre Y := by rw [← hY]; exact hI _ _ _ _ hi (Eff.putObj _ (by omega) hl rfl)
      have ys : Y.heap.size = W'.heap.size := by rw [← hY]; simp [World.putObj]
      have yax : Ax x a' Y := by rw [← hY]; exact hAx _ _ _ _ _ _ hax hl rfl
      refine wpIn_mono (hbody _ n1 pre x a' Y (by omega) ⟨_, yl⟩ (by omega) (by omega) yi yax hlen hspx) ?_
      have fin : ∀ (jump : Option Code) (Z : World), KeepsFrom w.heap.size Y Z →
          (Instr.endRound (w.heap.size + 1) jump).run P Z = .ok (.bool jump.isNone) (Z.putObj (w.heap.size + 1) (.loop (rc (if jump.isNone then .ready else .done) jump))) ∧
          Z.heap[w.heap.size + 1]? = some (.loop { rc .ready none with state := .busy }) ∧
          (Z.putObj (w.heap.size + 1) (.loop (rc (if jump.isNone then .ready else .done) jump))).heap[w.heap.size + 1]? = some (.loop (rc (if jump.isNone then .ready else .done) jump)) ∧
          (Z.putObj (w.heap.size + 1) (.loop (rc (if jump.isNone then .ready else .done) jump))).heap[w.heap.size]? = some (.deferred (some [])) ∧
          KeepsFrom V.heap.size X (Z.putObj (w.heap.size + 1) (.loop (rc (if jump.isNone then .ready else .done) jump))) := fun jump Z hk => by
        have zl := hk.same _ _ (by omega) yl rfl
        have := run_endRound (P := P) jump zl
        rw [hrc] at this ⊢
        refine ⟨this, by rw [hrc] at zl; exact zl, World.putObj_heap_same (Array.getElem?_eq_some_iff.1 zl).1, (World.putObj_heap_other (by omega)).trans (hk.same _ _ (Nat.le_refl _) yd rfl), ?_, fun k o hk1 hk2 hk3 => ?_⟩
        · have := hk.size; simp [World.putObj]; omega
        · refine (World.putObj_heap_other (by omega)).trans (hk.same k o (by omega) ?_ hk3)
          rw [← hY]
          exact (World.putObj_heap_other (by omega)).trans ((hbW.block k (Array.getElem?_eq_some_iff.1 hk2).1).trans hk2)
      rintro e a3 Z hp
      cases e with
      | normal =>
        obtain ⟨hk3, hkp3, hi3⟩ := hp
        obtain ⟨hr3, hl3, hl4, hk4, hkf⟩ := fin none Z hk3
        refine ⟨_, _, hr3, hkf, .inl ⟨rfl, ⟨hI _ _ _ _ hi3 (Eff.putObj _ (by omega) hl3 rfl), hl4, hk4⟩, ⟨by have := hk3.size; simp [World.putObj]; omega, fun k hk hn => ?_, fun k cs t fr h1 ht hn => ?_⟩⟩⟩
        · by_cases hkl : k = w.heap.size + 1
          · subst hkl
            exact hl4.trans hlX.symm
          · refine (World.putObj_heap_other hkl).trans ((hkp3.low k hk (fun h => ?_)).trans ?_)
            · rcases h with h | h
              · exact hn h
              · exact hkl h
            · rw [← hY]; exact (World.putObj_heap_other hkl).trans (hbW.block k (by omega))
        · have hkl : k ≠ w.heap.size + 1 := fun e => by
            subst e
            rw [hlX] at h1
            cases h1
          refine (World.putObj_heap_other hkl).trans (hkp3.high k cs t fr ?_ ht (fun h => ?_))
          · rw [← hY]; exact (World.putObj_heap_other hkl).trans ((hbW.block k (Array.getElem?_eq_some_iff.1 h1).1).trans h1)
          · rcases h with h | h
            · exact hn h
            · exact hkl h
      | ret =>
        obtain ⟨hk3, hi3⟩ := hp
        obtain ⟨hr3, hl3, hl4, hk4, hkf⟩ := fin (some .ret) Z hk3
        exact ⟨_, _, hr3, hkf, .inr ⟨rfl, .ret, hIx _ _ _ _ _ hi3 (Eff.putObj _ (by omega) hl3 rfl), hl4, hk4⟩⟩
      | exit id' =>
        obtain ⟨hk3, hi3⟩ := hp
        obtain ⟨hr3, hl3, hl4, hk4, hkf⟩ := fin (some (.exit id')) Z hk3
        exact ⟨_, _, hr3, hkf, .inr ⟨rfl, .exit id', hIx _ _ _ _ _ hi3 (Eff.putObj _ (by omega) hl3 rfl), hl4, hk4⟩⟩
      | goto t =>
        obtain ⟨hk3, hi3⟩ := hp
        obtain ⟨hr3, hl3, hl4, hk4, hkf⟩ := fin (some (.goto t)) Z hk3
        exact ⟨_, _, hr3, hkf, .inr ⟨rfl, .goto t, hIx _ _ _ _ _ hi3 (Eff.putObj _ (by omega) hl3 rfl), hl4, hk4⟩⟩
      | panic ch => exact hp.elim
      | outgrown => exact hp.elim
    · rintro e Z ⟨⟨v, rfl⟩, n1, hn1, (⟨xs, hS, ⟨hi, hl, hk⟩, hf⟩ | ⟨pre, hSp, c, hi, hl, hk⟩)⟩
      · exact ⟨none, _, by have := run_endLoop (P := P) hl (by rw [hrc]; simp); rw [hrc] at this; exact this, hall _ n1 xs _ (Nat.le_refl _) hS (hI _ _ _ _ hi (Eff.putObj _ (by omega) hl rfl)) (hFp _ _ _ _ hf hl rfl) ((World.putObj_heap_other (by omega)).trans hk)⟩
      · exact ⟨some c, _, by have := run_endLoop (P := P) hl (by rw [hrc]; simp); rw [hrc] at this; exact this, hleft _ n1 c pre _ (Nat.le_refl _) hSp (hIx _ _ _ _ _ hi (Eff.putObj _ (by omega) hl rfl)) ((World.putObj_heap_other (by omega)).trans hk)⟩
end Go.Proofs.YtlcfpnegpihicaaGreatDoor

namespace Go.Proofs.YtlcfpnegpihicaaGreatDoor
open Go.RowKit Go.Shelf
attribute [local go_sem] Oper.semAt_some
attribute [local go_sem] wide_fn wide_depth wide_round

/-- How it stands behind some fields. -/
def GI (l p sp most m nb bO b0 : Nat) (od : Option Nat) (s0 : PrS) (J : Nat → List (Nat × Sd) → World → Prop) (V1 : World) (pre : List FdT) (V : World) : Prop :=
  PrAt V p sp most m nb V1.heap.size od (stepsP m s0 pre).1 ∧ Has V b0 79 #[.func (.yield l) #[] #[]] ∧ Has V (b0 + 1) 40 (sdC sdN) ∧ Has V (b0 + 2) 3 #[.int .i64 ((stepsP m s0 pre).2.length : Int)] ∧
    Has V bO 105 #[.func (.func 41) #[.pointer (some ⟨p, 0, none⟩)] #[]] ∧ FTabs V ∧ J V1.heap.size (numS 0 (stepsP m s0 pre).2) V
def GFin (p sp dp most m nb B : Nat) (ob od : Option Nat) (s' : PrS) (c' : CSt) (V : World) : Prop :=
  ∃ dv ob', Has V p 71 (prC sp dv s' most m) ∧ Bs V nb dv s'.data ∧ SpO V nb sp dp most ob' c' ∧ (∀ g, dv.ownBlock = some g → ob' ≠ some g) ∧ (∀ g, dv.ownBlock = some g → od = some g ∨ B ≤ g) ∧ ∀ g, ob' = some g → ob = some g ∨ B ≤ g
set_option maxRecDepth 100000 in
set_option maxHeartbeats 8000000 in
theorem gather1_seq (n : Nat) (hn : 3 ≤ n) (p sp dp most m nb bF bO : Nat) (ob od : Option Nat) (lbF : Array Value) (s : CSt) (s0 : PrS) (x : List UInt8) (WrO : Nat → Prop) (w : World)
    (hok : s0.ok m most) (hll : s0.last.length ≤ 1000000) (hm : m ≤ 65536) (hl : most ≤ 65536) (hp : ∃ dv, Has w p 71 (prC sp dv s0 most m) ∧ Bs w nb dv s0.data ∧ dv.ownBlock = od)
    (kF : Has w bF 107 #[.func (.func 61) #[] lbF]) (kO : Has w bO 105 #[.func (.func 41) #[.pointer (some ⟨p, 0, none⟩)] #[]])
    (hF : ∀ (V : World) (Wr : Nat → Prop), Below w.heap.size w V → (∀ k, Wr k → nb ≤ k ∧ k < V.heap.size) → SeqA (n - 1) Tryz.prog 61 lbF encF Wr (WroteF sp dp most nb ob s x) (fun ys => ys = fieldsL (stepC most s x).1) (fun pre => ∃ k, 0 < k ∧ pre = (fieldsL (stepC most s x).1).take k) (fieldsL (stepC most s x).1).length V)
    (hfs : ∀ f ∈ fieldsL (stepC most s x).1, FldOk most f ∧ (f = (0, [], []) ∨ countsF f = true) ∧ f.2.1.length ≤ 1000000)
    (hcnt : (stepsP m s0 (fieldsL (stepC most s x).1)).2.length ≤ 1000000) (hT : FTabs w) (hL : FLow nb) (hnb : nb ≤ w.heap.size) (hC : ∀ k, ChL sp dp ob k → nb ≤ k ∧ k < w.heap.size ∧ ¬ WrO k) (hpC : ¬ ChL sp dp ob p) (hpW : ¬ WrO p) (hpn : nb ≤ p) (hdC : ∀ k, od = some k → ¬ ChL sp dp ob k ∧ ¬ WrO k ∧ nb ≤ k ∧ k < w.heap.size) (hWO : ∀ k, WrO k → nb ≤ k ∧ k < w.heap.size) (hbO : ¬ WrO bO ∧ ¬ ChL sp dp ob bO ∧ bO ≠ p ∧ od ≠ some bO) :
    SeqG n Tryz.prog 59 #[.pointer (some ⟨bF, 0, none⟩), .pointer (some ⟨bO, 0, none⟩)] (fun k => ChL sp dp ob k ∨ k = p ∨ od = some k) WrO
      (fun xs => xs = numS 0 (stepsP m s0 (fieldsL (stepC most s x).1)).2) (fun pre => ∃ k, 0 < k ∧ pre = (numS 0 (stepsP m s0 (fieldsL (stepC most s x).1)).2).take k) (GFin p sp dp most m nb w.heap.size ob od (stepsP m s0 (fieldsL (stepC most s x).1)).1 (stepC most s x).2) (stepsP m s0 (fieldsL (stepC most s x).1)).2.length w := by
  intro l J Jx W hW h0 hJ hJx hY
  have hpw : p < w.heap.size := by obtain ⟨_, h1, _⟩ := hp; exact h1.lt
  have hbOw : bO < w.heap.size := kO.lt
  have kF := kF.below hW kF.lt
  have kO := kO.below hW kO.lt
  have hbA : Below W.heap.size W (((W.alloc (.cells #[.func (.yield l) #[] #[]] 79)).alloc (.cells #[.int .i64 0, .string ⟨#[]⟩, .string ⟨#[]⟩, .string ⟨#[]⟩, .int .u64 0] 40)).alloc (.cells #[.int .i64 0] 3)) := (((Below.refl _ _).alloc (Nat.le_refl _) _).alloc (by simp) _).alloc (by simp; omega) _
  have kY := ((Has.new W 79 #[.func (.yield l) #[] #[]]).alloc (.cells #[.int .i64 0, .string ⟨#[]⟩, .string ⟨#[]⟩, .string ⟨#[]⟩, .int .u64 0] 40)).alloc (.cells #[.int .i64 0] 3)
  have kZ := (Has.new (W.alloc (.cells #[.func (.yield l) #[] #[]] 79)) 40 #[.int .i64 0, .string ⟨#[]⟩, .string ⟨#[]⟩, .string ⟨#[]⟩, .int .u64 0]).alloc (.cells #[.int .i64 0] 3)
  have kN := Has.new ((W.alloc (.cells #[.func (.yield l) #[] #[]] 79)).alloc (.cells #[.int .i64 0, .string ⟨#[]⟩, .string ⟨#[]⟩, .string ⟨#[]⟩, .int .u64 0] 40)) 3 #[.int .i64 0]
  simp only [World.size_alloc] at kZ kN
  have zA : (((W.alloc (.cells #[.func (.yield l) #[] #[]] 79)).alloc (.cells #[.int .i64 0, .string ⟨#[]⟩, .string ⟨#[]⟩, .string ⟨#[]⟩, .int .u64 0] 40)).alloc (.cells #[.int .i64 0] 3)).heap.size = W.heap.size + 1 + 1 + 1 := by simp
  have kFA := kF.below hbA kF.lt
  have kOA := kO.below hbA kO.lt
  have c1 := kFA.cell 0
  have hTA : FTabs (((W.alloc (.cells #[.func (.yield l) #[] #[]] 79)).alloc (.cells #[.int .i64 0, .string ⟨#[]⟩, .string ⟨#[]⟩, .string ⟨#[]⟩, .int .u64 0] 40)).alloc (.cells #[.int .i64 0] 3)) := (hT.kept hL (fun k hk => hW.block k (by omega))).kept hL (fun k hk => hbA.block k (by have := hW.size; omega))
  have hpA : ∃ dv, Has (((W.alloc (.cells #[.func (.yield l) #[] #[]] 79)).alloc (.cells #[.int .i64 0, .string ⟨#[]⟩, .string ⟨#[]⟩, .string ⟨#[]⟩, .int .u64 0] 40)).alloc (.cells #[.int .i64 0] 3)) p 71 (prC sp dv s0 most m) ∧ Bs (((W.alloc (.cells #[.func (.yield l) #[] #[]] 79)).alloc (.cells #[.int .i64 0, .string ⟨#[]⟩, .string ⟨#[]⟩, .string ⟨#[]⟩, .int .u64 0] 40)).alloc (.cells #[.int .i64 0] 3)) nb dv s0.data ∧ dv.ownBlock = od := by
    obtain ⟨dv, h1, h2, h3⟩ := hp
    have h1' := h1.below hW h1.lt
    exact ⟨dv, h1'.below hbA h1'.lt, (h2.below hW).below hbA, h3⟩
  have hWz := hW.size
  obtain ⟨fs, hfse⟩ : ∃ fs, fieldsL (stepC most s x).1 = fs := ⟨_, rfl⟩
  rw [hfse] at hF hfs hY hcnt ⊢
  have hbA' := Lib.hid hbA
  have hTA' := Lib.hid hTA
  have hpA' := Lib.hid hpA
  have hW' := Lib.hid hW
  have h0' := Lib.hid h0
  have hJ' := Lib.hid hJ
  have hJx' := Lib.hid hJx
  have hY' := Lib.hid hY
  have hF' := Lib.hid hF
  have hfs' := Lib.hid hfs
  have hfse' := Lib.hid hfse
  clear hbA hTA hpA hW h0 hJ hJx hY hF hfs hT hp hfse
  refine callsIn_of_wp_marks Tryz.func59 rfl trivial ?_ rfl
  simp only [Tryz.ntmps59, List.size_toArray, List.length_cons, List.length_nil, Nat.reduceAdd, Nat.reduceSub, Array.replicate_succ, Array.replicate_zero, List.push_toArray, List.append_toArray, List.nil_append, List.cons_append]
  gi_wp2
  obtain ⟨wA, hwA⟩ : ∃ wA, (((W.alloc (.cells #[.func (.yield l) #[] #[]] 79)).alloc (.cells #[.int .i64 0, .string ⟨#[]⟩, .string ⟨#[]⟩, .string ⟨#[]⟩, .int .u64 0] 40)).alloc (.cells #[.int .i64 0] 3)) = wA := ⟨_, rfl⟩
  rw [hwA] at hbA' hTA' hpA' kY kZ kN zA kFA kOA ⊢
  clear c1 hwA
  refine wpIn_range_after (gf := 61) (lb := lbF) rfl (enters_of Tryz.func61 (by kernel_rfl) rfl)
    (hF'.out wA (fun k => k = p ∨ od = some k ∨ k = W.heap.size + 1 + 1 ∨ WrO k) (hW'.out.trans (hbA'.out.mono hW'.out.size)) ?hWr) (Below.refl _ _) (fun _ => rfl) ?hWr2
    ?hR (GI l p sp most m nb bO W.heap.size od s0 J) (fun V1 c pre V => c = .ret ∧ (stepsP m s0 pre).2 ≠ [] ∧ Jx V1.heap.size (numS 0 (stepsP m s0 pre).2) V)
    ?hI ?hIp ?hIxp ?h0 (AxB ?Fa 104 fdC) (fun f a' V l o o' h h1 h2 => by
      obtain ⟨k, h3, h4⟩ := h
      exact ⟨k, h3, h4.putNon o' h1 h2⟩) ?assign ?body ?all ?left
  case assign =>
    intro l2 f V K hK
    have hK' := Lib.hid hK
    clear hK
    dsimp only [encF]
    unfold fdC
    gi_wp2
    obtain ⟨k, hk⟩ : ∃ k, V.heap.size = k := ⟨_, rfl⟩
    have hnew := Has.new V 104 (fdC f)
    unfold fdC at hnew
    rw [hk] at hnew ⊢
    have hb : Below V.heap.size V (V.alloc (.cells #[.int .i64 f.1, .string ⟨f.2.1.toArray⟩, .string ⟨f.2.2.toArray⟩] 104)) := (Below.refl _ _).alloc (Nat.le_refl _) _
    refine hK'.out _ _ hb ⟨k, ?_, hnew⟩
    rfl
  case hWr =>
    rintro k (rfl | h | rfl | h)
    · exact ⟨hpn, by obtain ⟨dv, h1, _⟩ := hpA'.out; exact h1.lt⟩
    · have := (hdC k h).2.2
      exact ⟨this.1, by omega⟩
    · exact ⟨by omega, by omega⟩
    · have := hWO k h
      exact ⟨this.1, by omega⟩
  case hWr2 =>
    rintro k (rfl | h | rfl | h)
    · obtain ⟨dv, h1, _⟩ := hpA'.out
      exact h1.lt
    · have := (hdC k h).2.2
      omega
    · omega
    · have := hWO k h
      omega
  case hR =>
    rintro V V1 ⟨ob', h1, h2, h3⟩
    exact ⟨h3.size, fun k hk hl => h3.block k hl (fun hc => by have := (hC k hc).2.1; omega)⟩
  case hI =>
    rintro V1 pre X Y ⟨h1, h2, h3, h4, h5, h6, h7⟩ hb
    exact ⟨h1.below hb, h2.below hb h2.lt, h3.below hb h3.lt, h4.below hb h4.lt, h5.below hb h5.lt, h6.kept hL (fun k hk => hb.block k (by have := h3.lt; omega)), hJ'.out _ _ _ _ h7 (Eff.below hb)⟩
  case hIp =>
    rintro V1 pre X j o o' ⟨h1, h2, h3, h4, h5, h6, h7⟩ hj ho hc
    exact ⟨h1.put o' ho hc, h2.putNon o' ho hc, h3.putNon o' ho hc, h4.putNon o' ho hc, h5.putNon o' ho hc, h6.kept hL (fun k hk => World.putObj_heap_other (by omega)), hJ'.out _ _ _ _ h7 (Eff.putObj o' (by omega) ho hc)⟩
  case hIxp =>
    rintro V1 c pre X j o o' ⟨h1, h2, h3⟩ hj ho hc
    exact ⟨h1, h2, hJx'.out _ _ _ _ h3 (Eff.putObj o' (by omega) ho hc)⟩
  case h0 =>
    rintro V V1 hbV ⟨ob', h1, h2, h3⟩
    have hzV := hbV.size
    have hzV1 := h3.size
    have hk : ∀ k, k < wA.heap.size → ¬ ChL sp dp ob k → V1.heap[k]? = wA.heap[k]? := fun k hk hn => (h3.block k (by omega) hn).trans (hbV.block k hk)
    have hnew : ∀ k, W.heap.size ≤ k → ¬ ChL sp dp ob k := fun k hk hc => by have := (hC k hc).2.1; omega
    obtain ⟨dv, g1, g2, g3⟩ := hpA'.out
    refine ⟨⟨dv, (hk _ g1.lt hpC).trans g1, g2.kept (fun g hg => ?_), .inr (.inl g3)⟩, (hk _ kY.lt (hnew _ (Nat.le_refl _))).trans kY, (hk _ kZ.lt (hnew _ (by omega))).trans kZ, (hk _ kN.lt (hnew _ (by omega))).trans kN, (hk _ kOA.lt hbO.2.1).trans kOA, hTA'.out.kept hL (fun k hkn => hk k (by omega) (fun hc => by have := (hC k hc).1; omega)), ?_⟩
    · obtain ⟨_, _, hh⟩ := g2.own g hg
      exact hk g hh.lt (hdC g (g3.symm.trans hg)).1
    · exact hJ'.out _ _ _ _ (h0'.out V1.heap.size (by omega)) ((Eff.below hbA'.out).trans ((Eff.below hbV).trans (Eff.chg h3 (fun k hs _ hn => absurd (Or.inl hs) hn))))
  case body =>
    rintro l2 V1 pre f a' V2 hl2 hloop hzV ⟨V, hbV, ob', r1, r2, r3⟩ ⟨⟨dv, i1, i2, i3⟩, j2, j3, j4, j5, j6, j7⟩ ⟨b6, rfl, k6⟩ hlen ⟨kk, hkk, hpre⟩
    have c3 := j2.cell 0
    have c4 := j4.cell 0
    have f4 := j4.free 0
    have c5 := j5.cell 0
    have z0 := j3.cell 0
    have z1 := j3.cell 1
    have z2 := j3.cell 2
    have z3 := j3.cell 3
    have z4 := j3.cell 4
    have x0 := k6.cell 0
    have x1 := k6.cell 1
    have x2 := k6.cell 2
    unfold fdC at x0 x1 x2
    unfold sdC at z0 z1 z2 z3 z4
    have hsub : ∀ g ∈ pre ++ [f], FldOk most g := fun g hg => (hfs'.out g (by rw [hpre] at hg; exact List.mem_of_mem_take hg)).1
    have hsub1 : ∀ g ∈ pre, FldOk most g := fun g hg => hsub g (by simp [hg])
    have hfm : f ∈ fs := by
      have h : f ∈ pre ++ [f] := by simp
      rw [hpre] at h
      exact List.mem_of_mem_take h
    obtain ⟨hf1, hf2, hf3⟩ := hfs'.out f hfm
    have hokp := stepsP_ok pre s0 hok hsub1
    have hlast := stepsP_last (most := m) (line := most) hl pre s0 hll hsub1
    have hV2n : nb ≤ V2.heap.size := by have := j3.lt; omega
    have hdo := Lib.hid (CallsIn.inRound l2 ((callsIn_wide (n := n - 1 - 1 - 1)).2 (doPs_any nb p sp most m (stepsP m s0 pre).1 f dv V2 i1 i2 hV2n hokp hl hm hf1 hf2 hf3 hlast j6.1 j6.2.2.1)))
    have hsn := steps_snoc m s0 pre f
    have hsaid := fun x hx => doP_said (x := x) (f := f) hokp hm hl hlast hx
    generalize stepsP m s0 pre = st at *
    obtain ⟨s1, told⟩ := st
    simp only at *
    obtain ⟨s2, hs2⟩ : ∃ s2, (doP m s1 f).1 = s2 := ⟨_, rfl⟩
    obtain ⟨o2, ho2⟩ : ∃ o2, (doP m s1 f).2 = o2 := ⟨_, rfl⟩
    rw [hs2, ho2] at hdo hsn
    rw [ho2] at hsaid
    unfold DeedR at hdo
    gi_wp2_with fail
    refine hdo.out.mono ?_
    rintro e w5 ⟨rfl, ⟨dv5, p1, p2, p3⟩, p4⟩
    have hz2 := j3.lt
    have hzVV := hbV.size
    have hzr3 := r3.size
    have hz5 := p4.size
    have hown : ∀ k, dv.ownBlock = some k → (od = some k ∧ k < w.heap.size) ∨ V1.heap.size ≤ k := fun k hk => by
      rcases i3 with i3 | i3 | ⟨k2, i3, i4⟩
      · rw [hk] at i3; cases i3
      · exact .inl ⟨i3.symm.trans hk, (hdC k (i3.symm.trans hk)).2.2.2⟩
      · rw [hk] at i3
        obtain rfl := Option.some.inj i3
        exact .inr i4
    have hst : ∀ k, k < V2.heap.size → k ≠ p → (k < V1.heap.size → od ≠ some k) → (V1.heap.size ≤ k → dv.ownBlock ≠ some k) → w5.heap[k]? = V2.heap[k]? := fun k hk h1 h2 h3 => p4.block k hk (fun h => by
      rcases h with h | h
      · exact h1 h
      · rcases hown k h with ⟨h4, h5⟩ | h4
        · exact h2 (by omega) h4
        · exact h3 h4 h)
    have hodl : ∀ k, od = some k → k < w.heap.size := fun k hk => (hdC k hk).2.2.2
    have g3 : Has w5 W.heap.size _ _ := (hst _ j2.lt (by omega) (fun _ h => by have := hodl _ h; omega) (fun h => by omega)).trans j2
    have g3z : Has w5 (W.heap.size + 1) _ _ := (hst _ j3.lt (by omega) (fun _ h => by have := hodl _ h; omega) (fun h => by omega)).trans j3
    have g4 : Has w5 (W.heap.size + 2) _ _ := (hst _ j4.lt (by omega) (fun _ h => by have := hodl _ h; omega) (fun h => by omega)).trans j4
    have g5 : Has w5 bO _ _ := (hst _ j5.lt hbO.2.2.1 (fun _ => hbO.2.2.2) (fun h => by omega)).trans j5
    have g6 : Has w5 p _ _ := p1
    have hT5 : FTabs w5 := j6.kept hL (fun k hk => hst k (by omega) (by omega) (fun _ h => by have := (hdC k h).2.2.1; omega) (fun h => by omega))
    have hJ5 : J V1.heap.size (numS 0 told) w5 := hJ'.out _ _ _ _ j7 (Eff.chg p4 (fun k hs hkl hn => by
      rcases hs with h | h
      · exact absurd (Or.inr (Or.inl h)) hn
      · rcases hown k h with ⟨h4, _⟩ | h4
        · exact absurd (Or.inr (Or.inr h4)) hn
        · refine ⟨by omega, ?_⟩
          obtain ⟨_, cs5, hh⟩ := i2.own k h
          exact ⟨_, hh, fun cs fr e => by injection e with _ e2 _; exact absurd e2 (by decide)⟩))
    obtain ⟨y, hy⟩ : ∃ y, o2.getD sdN = y := ⟨_, rfl⟩
    rw [hy]
    have hyok : SdOk y := by
      rw [← hy]
      cases o2 with
      | none => exact sdN_ok
      | some xx => exact (hsaid xx rfl).1
    have heq := fun (W' : World) => said_equal y sdN hyok sdN_ok W'
    obtain ⟨ya, ⟨yb, yc, yd⟩, ye⟩ := y
    have heq : ∀ W' : World, (Op.equalIn 10000 40 (.agg #[.int .i64 ya, .string ⟨yb.toArray⟩, .string ⟨yc.toArray⟩, .string ⟨yd.toArray⟩, .int .u64 ye]) (.agg #[.int .i64 0, .string ⟨#[]⟩, .string ⟨#[]⟩, .string ⟨#[]⟩, .int .u64 0])).run Tryz.prog W' = .ok (decide ((ya, (yb, yc, yd), ye) = sdN)) W' := heq
    have b6' : Below w5.heap.size w5 (w5.alloc (.cells #[.int .i64 ya, .string ⟨yb.toArray⟩, .string ⟨yc.toArray⟩, .string ⟨yd.toArray⟩, .int .u64 ye] 40)) := (Below.refl _ _).alloc (Nat.le_refl _) _
    have kM := Has.new w5 40 #[.int .i64 ya, .string ⟨yb.toArray⟩, .string ⟨yc.toArray⟩, .string ⟨yd.toArray⟩, .int .u64 ye]
    have m0 := kM.cell 0
    have m1 := kM.cell 1
    have m2 := kM.cell 2
    have m3 := kM.cell 3
    have m4 := kM.cell 4
    have gz := g3z.below b6' g3z.lt
    have q0 : (w5.alloc (.cells #[.int .i64 ya, .string ⟨yb.toArray⟩, .string ⟨yc.toArray⟩, .string ⟨yd.toArray⟩, .int .u64 ye] 40)).cell? ⟨W.heap.size + 1, 0, none⟩ = some (.int .i64 0) := gz.cell 0
    have q1 : (w5.alloc (.cells #[.int .i64 ya, .string ⟨yb.toArray⟩, .string ⟨yc.toArray⟩, .string ⟨yd.toArray⟩, .int .u64 ye] 40)).cell? ⟨W.heap.size + 1, 1, none⟩ = some (.string ⟨#[]⟩) := gz.cell 1
    have q2 : (w5.alloc (.cells #[.int .i64 ya, .string ⟨yb.toArray⟩, .string ⟨yc.toArray⟩, .string ⟨yd.toArray⟩, .int .u64 ye] 40)).cell? ⟨W.heap.size + 1, 2, none⟩ = some (.string ⟨#[]⟩) := gz.cell 2
    have q3 : (w5.alloc (.cells #[.int .i64 ya, .string ⟨yb.toArray⟩, .string ⟨yc.toArray⟩, .string ⟨yd.toArray⟩, .int .u64 ye] 40)).cell? ⟨W.heap.size + 1, 3, none⟩ = some (.string ⟨#[]⟩) := gz.cell 3
    have q4 : (w5.alloc (.cells #[.int .i64 ya, .string ⟨yb.toArray⟩, .string ⟨yc.toArray⟩, .string ⟨yd.toArray⟩, .int .u64 ye] 40)).cell? ⟨W.heap.size + 1, 4, none⟩ = some (.int .u64 0) := gz.cell 4
    have v3 := (g3.below b6' g3.lt).cell 0
    have v4 := (g4.below b6' g4.lt).cell 0
    have u4 := (g4.below b6' g4.lt).free 0
    have hcell := Lib.hid (fun k (hk : dv.ownBlock = some k) => (i2.own k hk).2)
    have hp5 : dv5.ownBlock = none ∨ dv5.ownBlock = od ∨ ∃ k, dv5.ownBlock = some k ∧ V1.heap.size ≤ k := by
      rcases p3 with h | h | ⟨k, h, h1⟩
      · exact .inl h
      · rw [h]; exact i3
      · exact .inr (.inr ⟨k, h, by omega⟩)
    have hp5' := Lib.hid hp5
    have g3' := Lib.hid g3
    have g3z' := Lib.hid g3z
    have g4' := Lib.hid g4
    have g5' := Lib.hid g5
    have p1' := Lib.hid p1
    have p2' := Lib.hid p2
    have p3' := Lib.hid p3
    have p4' := Lib.hid p4
    have hst' := Lib.hid hst
    have hT5' := Lib.hid hT5
    have hJ5' := Lib.hid hJ5
    have b6'' := Lib.hid b6'
    have hsaid' := Lib.hid hsaid
    have hsn' := Lib.hid hsn
    have hown' := Lib.hid hown
    have hodl' := Lib.hid hodl
    clear g3 g3z g4 g5 p1 p2 p3 p4 hst hT5 hJ5 b6' gz kM hsaid hsn hown hodl g6 hdo c3 c4 f4 c5 z0 z1 z2 z3 z4 x0 x1 x2 hs2 ho2 i1 i2 i3 hp5 j2 j3 j4 j5 j6 j7 k6
    have hkf := Lib.hid (show KeepsFrom wA.heap.size V2 (w5.alloc (.cells #[.int .i64 ya, .string ⟨yb.toArray⟩, .string ⟨yc.toArray⟩, .string ⟨yd.toArray⟩, .int .u64 ye] 40)) from ⟨by have h1 := b6''.out.size; omega, fun k o hk ho hc => (b6''.out.block k (by have := (Array.getElem?_eq_some_iff.1 ho).1; omega)).trans ((hst'.out k (Array.getElem?_eq_some_iff.1 ho).1 (by omega) (fun _ h => by have := hodl'.out _ h; omega) (fun _ h => by
        obtain ⟨cs6, hh⟩ := hcell.out k h
        have hh' : V2.heap[k]? = some (.cells cs6 5 (0, 0)) := hh
        rw [hh'] at ho
        rw [← Option.some.inj ho] at hc
        cases hc)).trans ho)⟩)
    have hkn := Lib.hid (show KeepN V1.heap.size (fun k => (k = p ∨ od = some k ∨ k = W.heap.size + 1 + 1 ∨ WrO k) ∨ k = l2) V2 (w5.alloc (.cells #[.int .i64 ya, .string ⟨yb.toArray⟩, .string ⟨yc.toArray⟩, .string ⟨yd.toArray⟩, .int .u64 ye] 40)) from
      ⟨by have h1 := b6''.out.size; omega, fun k hk hn => (b6''.out.block k (by omega)).trans (hst'.out k (by omega) (fun e => hn (.inl (.inl e))) (fun _ e => hn (.inl (.inr (.inl e)))) (fun h => by omega))⟩)
    have hnb6 : nb ≤ w5.heap.size := by omega
    cases o2 with
    | none =>
      have hd : decide ((ya, (yb, yc, yd), ye) = sdN) = true := decide_eq_true hy.symm
      rw [hd] at heq
      unfold sdC
      gi_wp2
      refine ⟨hkf.out, hkn.out, ?_⟩
      unfold GI
      rw [hsn'.out]
      simp only [Option.toList_none, List.append_nil]
      exact ⟨⟨dv5, p1'.out.below b6''.out p1'.out.lt, p2'.out.below b6''.out, hp5'.out⟩, g3'.out.below b6''.out g3'.out.lt, g3z'.out.below b6''.out g3z'.out.lt, g4'.out.below b6''.out g4'.out.lt, g5'.out.below b6''.out g5'.out.lt, hT5'.out.kept hL (fun k hk => b6''.out.block k (by omega)), hJ'.out _ _ _ _ hJ5'.out (Eff.below b6''.out)⟩
    | some xx =>
      have hd : decide ((ya, (yb, yc, yd), ye) = sdN) = false := decide_eq_false (by rw [← hy]; exact (hsaid'.out xx rfl).2)
      rw [hd] at heq
      obtain rfl : xx = (ya, (yb, yc, yd), ye) := hy
      have hall2 : ∃ B, (stepsP m s0 fs).2 = told ++ (ya, (yb, yc, yd), ye) :: B := by
        obtain ⟨B, hB⟩ := steps_pre m s0 fs kk
        rw [← hpre, hsn'.out] at hB
        exact ⟨B, by rw [hB]; simp⟩
      have hlt2 : (numS 0 told).length < (stepsP m s0 fs).2.length := by
        obtain ⟨B, hB⟩ := hall2
        rw [hB, numS_len]; simp
      have hsp2 : ∃ k, 0 < k ∧ numS 0 told ++ [(told.length, (ya, (yb, yc, yd), ye))] = (numS 0 (stepsP m s0 fs).2).take k := by
        obtain ⟨B, hB⟩ := hall2
        refine ⟨told.length + 1, by omega, ?_⟩
        rw [hB, show told ++ (ya, (yb, yc, yd), ye) :: B = (told ++ [(ya, (yb, yc, yd), ye)]) ++ B by simp, numS_append, numS_snoc, List.take_left' (by simp [numS_len])]
        simp
      have htl : told.length ≤ 1000000 := by rw [numS_len] at hlt2; omega
      obtain ⟨fn, tmps, assign, body, hyy, hR⟩ := hY'.out V1.heap.size (numS 0 told) (told.length, (ya, (yb, yc, yd), ye)) (w5.alloc (.cells #[.int .i64 ya, .string ⟨yb.toArray⟩, .string ⟨yc.toArray⟩, .string ⟨yd.toArray⟩, .int .u64 ye] 40)) (by omega) (by have := b6''.out.size; omega) (hJ'.out _ _ _ _ hJ5'.out (Eff.below b6''.out)) hlt2 hsp2
      have hy' : (Instr.yield l #[.int .i64 (told.length : Int), .agg #[.int .i64 ya, .string ⟨yb.toArray⟩, .string ⟨yc.toArray⟩, .string ⟨yd.toArray⟩, .int .u64 ye]]).run Tryz.prog (w5.alloc (.cells #[.int .i64 ya, .string ⟨yb.toArray⟩, .string ⟨yc.toArray⟩, .string ⟨yd.toArray⟩, .int .u64 ye] 40)) = .ok (Next.round l fn tmps assign body) (w5.alloc (.cells #[.int .i64 ya, .string ⟨yb.toArray⟩, .string ⟨yc.toArray⟩, .string ⟨yd.toArray⟩, .int .u64 ye] 40)) := hyy
      have hR' := Lib.hid (round_any (l' := l2) (m' := n - 1 - 1 - 1) hR)
      clear hyy hR hall2 hlt2 hsp2
      unfold sdC
      gi_wp2_with fail
      refine hR'.out.mono ?_
      rintro e W3 ⟨hk3, (⟨rfl, hJ3, hko⟩ | ⟨rfl, hJx3⟩)⟩
      · have hWlt : ∀ k, WrO k → k < V1.heap.size := fun k hk => by have := (hWO k hk).2; omega
        have hnW : ∀ k, W.heap.size ≤ k → ¬ WrO k := fun k hk h => by have := (hWO k h).2; omega
        have hP6 : PrAt W3 p sp most m nb V1.heap.size od s2 := PrAt.keep ⟨dv5, p1'.out.below b6''.out p1'.out.lt, p2'.out.below b6''.out, hp5'.out⟩ hko hpW (fun k hk => (hdC k hk).2.1) hWlt
        have n3 : Has W3 (W.heap.size + 2) _ _ := (hko.low _ (by omega) (hnW _ (by omega))).trans (g4'.out.below b6''.out g4'.out.lt)
        have n0 : Has W3 W.heap.size _ _ := (hko.low _ (by omega) (hnW _ (by omega))).trans (g3'.out.below b6''.out g3'.out.lt)
        have n1 : Has W3 (W.heap.size + 1) _ _ := (hko.low _ (by omega) (hnW _ (by omega))).trans (g3z'.out.below b6''.out g3z'.out.lt)
        have n5 : Has W3 bO _ _ := (hko.low _ (by omega) hbO.1).trans (g5'.out.below b6''.out g5'.out.lt)
        have nT : FTabs W3 := (hT5'.out.kept hL (fun k hk => b6''.out.block k (by omega))).kept hL (fun k hk => hko.low k (by omega) (fun h => by have := (hWO k h).1; omega))
        have r4 := n3.cell 0
        have s4 := n3.free 0
        have n3' := Lib.hid n3
        have n0' := Lib.hid n0
        have n1' := Lib.hid n1
        have n5' := Lib.hid n5
        have nT' := Lib.hid nT
        have hP6' := Lib.hid hP6
        have hJ3' := Lib.hid hJ3
        have hko' := Lib.hid hko
        have hk3' := Lib.hid hk3
        clear n3 n0 n1 n5 nT hP6 hJ3 hko hk3
        gi_wp2
        have hw64 : (told.length : Int) + 1 = ((told.length + 1 : Nat) : Int) := by omega
        rw [hw64]
        obtain ⟨dv6, a1, a2, a3⟩ := hP6'.out
        have hoth : ∀ k, k ≠ W.heap.size + 2 → (W3.setCell ⟨W.heap.size + 1 + 1, 0, none⟩ (.int .i64 ((told.length + 1 : Nat) : Int))).heap[k]? = W3.heap[k]? := fun k hk => Below.heap_setCell W3 ⟨W.heap.size + 1 + 1, 0, none⟩ _ k hk
        refine ⟨⟨?_, fun k o hk ho hc => ?_⟩, ⟨?_, fun k hk hn => ?_⟩, ?_⟩
        · have h1 := hkf.out.size
          have h2 := hk3'.out.size
          simp [World.setCell] at h1 h2 ⊢
          omega
        · exact (hoth k (by omega)).trans (hk3'.out.same k o (by omega) (hkf.out.same k o hk ho hc) hc)
        · have h1 := hkf.out.size
          have h2 := hk3'.out.size
          simp [World.setCell] at h1 h2 ⊢
          omega
        · exact (hoth k (fun e => hn (.inl (.inr (.inr (.inl e)))))).trans ((hko'.out.low k hk (fun h => hn (.inl (.inr (.inr (.inr h)))))).trans (hkn.out.low k hk hn))
        · unfold GI
          rw [hsn'.out]
          simp only [Option.toList_some]
          have nn := n3'.out.put 0 (.int .i64 ((told.length + 1 : Nat) : Int))
          refine ⟨⟨dv6, a1.other (by omega) _, a2.setCell (i := 0) n3'.out (by decide) _, a3⟩, n0'.out.other (by omega) _, n1'.out.other (by omega) _, ?_, n5'.out.other (by omega) _, nT'.out.kept hL (fun k hk => hoth k (by omega)), ?_⟩
          · rw [List.length_append, List.length_singleton]
            simpa using nn
          · rw [numS_snoc, Nat.zero_add]
            refine hJ'.out _ _ _ _ hJ3'.out ⟨rfl, rfl, rfl, by simp [World.setCell], fun k hk _ _ => hoth k (by omega), fun k cs fr h1 _ => (hoth k (fun e => ?_)).trans h1⟩
            subst e
            have h2 : W3.heap[W.heap.size + 2]? = _ := n3'.out
            rw [h2] at h1
            injection h1 with h1
            injection h1 with _ h1 _
            exact absurd h1 (by decide)
      · have hJ4 := Lib.hid hJx3
        have hk3' := Lib.hid hk3
        clear hJx3 hk3
        gi_wp2
        refine ⟨⟨by have h1 := hkf.out.size; have h2 := hk3'.out.size; omega, fun k o hk ho hc => hk3'.out.same k o (by omega) (hkf.out.same k o hk ho hc) hc⟩, rfl, ?_, ?_⟩
        · rw [hsn'.out]; simp
        · rw [hsn'.out]
          simp only [Option.toList_some]
          rw [numS_snoc, Nat.zero_add]
          exact hJ4.out
  case all =>
    rintro D V V1 xs V2 hD hVz hbV ⟨ob', h1, h2, h3⟩ rfl ⟨⟨dv, i1, i2, i3⟩, j2, j3, j4, j5, j6, j7⟩ hkn hkd
    obtain ⟨l1, l2, l3, l4⟩ := h1.lt
    have hzV1 := h3.size
    have hfree : ∀ k, (k = sp ∨ k = dp ∨ ob' = some k) → k < V1.heap.size ∧ V2.heap[k]? = V1.heap[k]? := fun k hk => by
      have hlt : k < V1.heap.size := by
        rcases hk with rfl | rfl | hk
        · exact l1
        · exact l2
        · exact (l4 k hk).1
      refine ⟨hlt, hkn.low k hlt (fun hw => ?_)⟩
      have hold : ChL sp dp ob k ∨ V.heap.size ≤ k := by
        rcases hk with rfl | rfl | hk
        · exact .inl (.inl rfl)
        · exact .inl (.inr (.inl rfl))
        · rcases h2 k hk with h | h
          · exact .inl (.inr (.inr h))
          · exact .inr h
      rcases hold with hc | hc
      · obtain ⟨c1, c2, c3⟩ := hC k hc
        rcases hw with (rfl | hw | rfl | hw) | rfl
        · exact hpC hc
        · exact (hdC k hw).1 hc
        · omega
        · exact c3 hw
        · omega
      · rcases hw with (rfl | hw | rfl | hw) | rfl
        · obtain ⟨_, q1, _⟩ := hpA'.out
          have := q1.lt
          have := hbV.size
          omega
        · have := (hdC k hw).2.2.2
          have := hbV.size
          omega
        · have := hbV.size
          omega
        · have := (hWO k hw).2
          have := hbV.size
          omega
        · omega
    gi_wp2
    refine ⟨by simp, .inl ⟨_, _, rfl, run_takeDeferred hkd, ?_⟩⟩
    refine ⟨_, results_none rfl _ _ _, ⟨_, rfl⟩, V1.heap.size, by have := hbV.size; omega, .inl ⟨_, rfl, hJ'.out _ _ _ _ j7 (Eff.putObj _ (by omega) hkd rfl), ?_⟩⟩
    refine ⟨dv, ob', i1.putNon _ hkd rfl, ?_, ?_, ?_, ?_, fun g hg => (h2 g hg).imp id (fun h => by have := hbV.size; omega)⟩
    · refine i2.kept (fun g hg => ?_)
      obtain ⟨_, _, hh⟩ := i2.own g hg
      exact (hh.putNon _ hkd rfl).trans hh.symm
    · obtain ⟨vb, a1, a2, a3, a4⟩ := h1
      have a1' : Has V2 sp _ _ := (hfree sp (.inl rfl)).2.trans a1
      refine ⟨vb, a1'.putNon _ hkd rfl, a2.kept (fun g hg => ?_), ?_, a4⟩
      · obtain ⟨_, _, hh⟩ := a2.own g hg
        have hh' : Has V2 g _ _ := (hfree g (.inr (.inr (a4.symm.trans hg)))).2.trans hh
        exact (hh'.putNon _ hkd rfl).trans hh.symm
      · have a3' := a3
        obtain ⟨_, _, _, _, _, hd⟩ := a3'
        have hd' : Has V2 dp _ _ := (hfree dp (.inr (.inl rfl))).2.trans hd
        exact a3.kept ((hd'.putNon _ hkd rfl).trans hd.symm)
    · intro g hg hob
      rcases i3 with i3 | i3 | ⟨k, i3, i4⟩
      · rw [hg] at i3; cases i3
      · have hod := i3.symm.trans hg
        rcases h2 g hob with h | h
        · exact (hdC g hod).1 (.inr (.inr h))
        · have := (hdC g hod).2.2.2
          have := hbV.size
          omega
      · rw [hg] at i3
        obtain rfl := Option.some.inj i3
        have := (l4 _ hob).1
        omega
    · intro g hg
      rcases i3 with i3 | i3 | ⟨k, i3, i4⟩
      · rw [hg] at i3; cases i3
      · exact .inl (i3.symm.trans hg)
      · rw [hg] at i3
        obtain rfl := Option.some.inj i3
        refine .inr ?_
        have := hbV.size
        omega
  case left =>
    rintro D V V1 c pre V2 hD hbV hR ⟨k, hk0, rfl⟩ ⟨rfl, h2, h3⟩ hkd
    have hz1 := hR
    obtain ⟨ob', r1, r2, r3⟩ := hz1
    gi_wp2
    refine ⟨by simp, .inl ⟨_, _, rfl, run_takeDeferred hkd, ?_⟩⟩
    refine ⟨_, results_none rfl _ _ _, ⟨_, rfl⟩, V1.heap.size, by have := r3.size; have := hbV.size; omega, .inr ⟨_, ?_, hJx'.out _ _ _ _ h3 (Eff.putObj _ (by omega) hkd rfl)⟩⟩
    refine ⟨(stepsP m s0 (fs.take k)).2.length, List.length_pos_iff.2 h2, ?_⟩
    obtain ⟨B, hB⟩ := steps_pre m s0 fs k
    rw [hB, numS_append, List.take_left' (numS_len _ _)]
end Go.Proofs.YtlcfpnegpihicaaGreatDoor

namespace Go.Proofs.YtlcfpnegpihicaaGreatDoor
open Go.RowKit Go.Shelf

/-! ## What is said, in memory: a list of it -/
def sdsC (l : List Sd) : List Value := l.flatMap fun x => (sdC x).toList
theorem sdsC_append (l m : List Sd) : sdsC (l ++ m) = sdsC l ++ sdsC m := by simp [sdsC]
theorem sdsC_one (l : List Sd) : ∀ u ∈ sdsC l, u.oneCell' = true := by
  intro u hu
  obtain ⟨x, _, hu⟩ := List.mem_flatMap.1 hu
  simp only [sdC, List.mem_cons, List.not_mem_nil, or_false] at hu
  rcases hu with rfl | rfl | rfl | rfl | rfl <;> rfl
theorem sdsC_get : ∀ (l : List Sd) (i : Nat) (x : Sd), l[i]? = some x → (sdsC l)[i * 5]? = some (.int .i64 x.1) ∧ (sdsC l)[i * 5 + 1]? = some (.string ⟨x.2.1.1.toArray⟩) ∧ (sdsC l)[i * 5 + 2]? = some (.string ⟨x.2.1.2.1.toArray⟩) ∧ (sdsC l)[i * 5 + 3]? = some (.string ⟨x.2.1.2.2.toArray⟩) ∧ (sdsC l)[i * 5 + 4]? = some (.int .u64 x.2.2)
  | [], i, x, h => by simp at h
  | y :: l, 0, x, h => by
    obtain rfl : y = x := by simpa using h
    exact ⟨rfl, rfl, rfl, rfl, rfl⟩
  | y :: l, i + 1, x, h => by
    have := sdsC_get l i x (by simpa using h)
    have e : ∀ n, (sdsC (y :: l))[n + 1 + 1 + 1 + 1 + 1]? = (sdsC l)[n]? := fun n => rfl
    rw [show (i + 1) * 5 = i * 5 + 1 + 1 + 1 + 1 + 1 by omega, show i * 5 + 1 + 1 + 1 + 1 + 1 + 1 = (i * 5 + 1) + 1 + 1 + 1 + 1 + 1 by omega, show i * 5 + 1 + 1 + 1 + 1 + 1 + 2 = (i * 5 + 2) + 1 + 1 + 1 + 1 + 1 by omega, show i * 5 + 1 + 1 + 1 + 1 + 1 + 3 = (i * 5 + 3) + 1 + 1 + 1 + 1 + 1 by omega, show i * 5 + 1 + 1 + 1 + 1 + 1 + 4 = (i * 5 + 4) + 1 + 1 + 1 + 1 + 1 by omega, e, e, e, e, e]
    exact this
def Sds (W : World) (n0 : Nat) (v : Value) (l : List Sd) : Prop := W.ownsRow n0 40 5 v l.length (sdsC l)
theorem sds_nil (W : World) (n0 : Nat) : Sds W n0 (.slice none 0 0) [] := ⟨rfl, .inl ⟨rfl, rfl⟩⟩
section
variable {W W' : World} {n0 : Nat} {v : Value} {l : List Sd}
theorem Sds.shape (h : Sds W n0 v l) : ∃ A c, v = .slice A l.length c ∧ SdAt W A l := by
  have hh := h
  rcases h.2 with ⟨rfl, h0⟩ | ⟨g, cap, cur, rfl, hb, hg, _⟩
  · exact ⟨none, 0, by rw [h0], fun i x hx => by have := (List.getElem?_eq_some_iff.1 hx).1; omega⟩
  · refine ⟨_, cap, rfl, fun i x hx => ⟨g, rfl, (Array.getElem?_eq_some_iff.1 hg).1, ?_⟩⟩
    have c := fun j u hu => World.ownsRow.cells (g := g) hh rfl j u hu
    simp only [add_zero_, Nat.zero_add] at c
    obtain ⟨h1, h2, h3, h4, h5⟩ := sdsC_get l i x hx
    exact ⟨c _ _ h1, c _ _ h2, c _ _ h3, c _ _ h4, c _ _ h5⟩
theorem Sds.own (h : Sds W n0 v l) : ∀ g, v.ownBlock = some g → n0 ≤ g ∧ ∃ cs, Has W g 40 cs := by
  intro g hg
  rcases h.2 with ⟨rfl, _⟩ | ⟨g', cap, cur, rfl, hb, hh, r⟩
  · cases hg
  · obtain rfl : g' = g := by simpa [Value.ownBlock] using hg
    exact ⟨hb, cur, hh⟩
theorem Sds.kept (h : Sds W n0 v l) (k : ∀ g, v.ownBlock = some g → W'.heap[g]? = W.heap[g]?) : Sds W' n0 v l := by
  refine ⟨h.1, ?_⟩
  rcases h.2 with h | ⟨g, cap, cur, rfl, hb, hg, r⟩
  · exact .inl h
  · exact .inr ⟨g, cap, cur, rfl, hb, (k g rfl).trans hg, r⟩
theorem Sds.below (h : Sds W n0 v l) (hb : Below W.heap.size W W') : Sds W' n0 v l := h.kept fun g hg => hb.block g (h.own g hg).2.choose_spec.lt
end
theorem infoSaid : (Tryz.prog.info? 40).map (fun i => (i.zero, i.size, i.bytes)) = some (some (.agg #[.int .i64 0, .string ⟨#[]⟩, .string ⟨#[]⟩, .string ⟨#[]⟩, .int .u64 0]), 5, 64) := by kernel_rfl
theorem wpListIn_append_said {F : Fence} {n : Nat} {w : World} {ops : Array Oper} {rest : List Oper} {o : Oper} {a : Act} {Q : Exit → Act → World → Prop} {n0 : Nat} {v : Value} {l : List Sd} (hgd : o.guard = none) (s x : Operand) (ho : o.op = .call { callee := .builtin .append, args := #[s, x], argTypes := #[24, 24] }) (hsv : a.eval s = v) (hv : Sds w n0 v l)
    (k : Nat) (y : Sd) (hxv : a.eval x = .slice (some ⟨k, 0, none⟩) 1 1) (hx : Has w k 40 (sdC y)) (hs : l.length + 1 ≤ 1099511627776) (hn : n0 ≤ w.heap.size)
    (h : ∀ v' w', Sds w' n0 v' (l ++ [y]) → w.grownBy w' v.ownBlock → wpListIn F n Tryz.prog ops Q rest (a.put o.dst v') w') : wpListIn F n Tryz.prog ops Q (o :: rest) a w := by
  obtain ⟨i, hi, hz, hz1, hz2⟩ := info_parts infoSaid
  refine wpListIn_append_own w hgd s x 24 ho n0 40 i _ 5 64 Tryz.underlying24 hi hz hz1 hz2 rfl (by decide) v l.length (sdsC l) hsv hv ⟨k, 0, none⟩ 1 1 (sdsC [y]) hxv rfl (fun j u hu => ?_) (sdsC_one _) (by simp only [maxLen]; omega) (by omega) hn (fun v' w' h1 h2 _ => h v' w' ?_ h2)
  · rw [add_zero_, Nat.zero_add, hx.cell]
    simpa [sdsC] using hu
  · unfold Sds
    rw [List.length_append, List.length_singleton, sdsC_append]
    exact h1
theorem others_said {w w' : World} {n0 : Nat} {v : Value} {l : List Sd} (h : Sds w n0 v l) (hg : w.grownBy w' v.ownBlock) : KeepsOthers w w' := ⟨hg.size, fun k o hk hc => (hg.block k (Array.getElem?_eq_some_iff.1 hk).1 (fun e => by
  obtain ⟨_, cs, hh⟩ := h.own k e.symm
  have hh' : w.heap[k]? = some (.cells cs 40 (0, 0)) := hh
  rw [hh'] at hk
  rw [← Option.some.inj hk] at hc
  cases hc)).trans hk⟩
end Go.Proofs.YtlcfpnegpihicaaGreatDoor
