import Derived.Test.YthdmmlaahjgijaaDoorLnW
import Derived.Laws.StructEq
import Derived.BigQuiet
import Derived.Deep.QuietTactic
import Derived.Outline
namespace Go.Proofs.YthdmmlaahjgijaaDoor
open Go.RowKit Go.Shelf
attribute [local go_sem] Oper.semAt_some
attribute [local go_sem] wide_fn wide_depth wide_round

/-! ## The law of lines, one by one: what it rests on -/
theorem line_equalN (a b : List UInt8) (p q : Bool) (w : World) :
    (Op.equalIn 10000 70 (.agg #[.string ⟨a.toArray⟩, .bool p]) (.agg #[.string ⟨b.toArray⟩, .bool q])).run Tryd.prog w = .ok (decide ((a, p) = (b, q))) w := by
  have hu : Tryd.prog.underlying 70 = some (.struct (Tryd.prog.fieldsOf 70)) := by kernel_rfl
  have hp : Tryd.prog.stoodInHeld 70 = false := by kernel_rfl
  have hv := Tryd.underlying70
  have hs : ∀ (d : Nat) (x y : ByteArray) (w : World), (Op.equalIn (d + 1) 9 (.string x) (.string y)).run Tryd.prog w = .ok (x.toList == y.toList) w := fun d x y w => run_equalIn_string w d _ x y Tryd.underlying9
  have hb : ∀ (d : Nat) (x y : Bool) (w : World), (Op.equalIn (d + 1) 4 (.bool x) (.bool y)).run Tryd.prog w = .ok (x == y) w := fun d x y w => run_equalIn_bool' w d _ x y Tryd.underlying4
  have k1 : Tryd.prog.cellsOf 9 = 1 := by kernel_rfl
  have k3 : Tryd.prog.cellsOf 4 = 1 := by kernel_rfl
  rw [show (10000 : Nat) = 9999 + 1 from rfl, run_equalIn_struct w 9999 _ _ _ hu hp]
  have he : (ByteArray.mk a.toArray).toList = a := by rw [ByteArray.toList_eq]
  have he2 : (ByteArray.mk b.toArray).toList = b := by rw [ByteArray.toList_eq]
  have hs' := hs 9998
  have hb' := hb 9998
  simp only [Nat.reduceAdd] at hs' hb'
  simp [Op.eqFields, Program.fieldsOf, hv, hs', hb', he, he2, go_sem]
  by_cases h1 : a = b <;> by_cases h2 : p = q <;> simp [h1, h2]
theorem Bs.wholeL {W : World} {n0 : Nat} {v : Value} {l : List UInt8} (h : Bs W n0 v l) (h0 : 0 < l.length) : ∃ g c, v = .slice (some ⟨g, 0, none⟩) l.length c ∧ n0 ≤ g ∧ g < W.heap.size ∧ l.length ≤ c ∧ c ≤ maxLen ∧ Rd W (· = g) (some ⟨g, 0, none⟩) l := by
  have hh := h
  rcases h.2 with ⟨rfl, h1⟩ | ⟨g, cap, cur, rfl, hb, hg, hnc, hcm, _⟩
  · omega
  · exact ⟨g, cap, rfl, hb, (Array.getElem?_eq_some_iff.1 hg).1, hnc, hcm, fun _ => ⟨_, rfl, rfl, fun j u hu => World.ownsRow.cells (g := g) hh rfl j u hu⟩⟩
theorem rd_oneL (W : World) (b : UInt8) : Rd (W.alloc (.cells #[byt b] 5)) (· = W.heap.size) (some ⟨W.heap.size, 0, none⟩) [b] := Has.rd (t := 5) (Has.new W _ _)
theorem linesOf_len (z : Int) (x : List UInt8) : (linesOf z x).length ≤ 3 * x.length ∧ ∀ y ∈ linesOf z x, y.1.length ≤ 1000000 := by
  unfold linesOf
  split
  · rename_i h
    refine ⟨?_, fun y hy => ?_⟩
    · have := stepC_count (most := z.toNat) init0 x
      have hz2 : init0.ws.length = 0 := rfl
      omega
    · have := (stepC_good (init0_ok z.toNat) x y hy).2.2.1
      omega
  · exact ⟨Nat.zero_le _, fun y hy => absurd hy (by simp)⟩
def badOf (z : Int) : Int := if 1 ≤ z ∧ z ≤ 65536 then 0 else 2
def OfZ (z : Int) (x : List UInt8) (w : World) (e : Ending) (w' : World) : Prop :=
  ∃ v, e = .returned (.tuple #[v, .int .i64 (badOf z)]) ∧ Lns w' w.heap.size v (linesOf z x) ∧ Below w.heap.size w w'
theorem ofL_all (z : Int) (x : List UInt8) (A : Option Addr) (n c : Nat) (w : World) (hn : n = x.length) (hc : n ≤ c) (hcm : c ≤ 9223372036854775807) (hl : n ≤ 4096) (hr : Rd w (· < w.heap.size) A x) (hT : Tab w) (hE : Ends w) :
    Calls Tryd.prog 30 #[.int .i64 z, .slice A n c] w (OfZ z x w) := by
  by_cases hz : 1 ≤ z ∧ z ≤ 65536
  · obtain ⟨most, rfl⟩ : ∃ most : Nat, z = (most : Int) := ⟨z.toNat, by omega⟩
    refine (ofL_yes most x A n c w (by omega) (by omega) hn hc hcm hl hr hT hE).mono ?_
    rintro e w' ⟨v, rfl, h1, h2⟩
    refine ⟨v, by unfold badOf; rw [if_pos hz], ?_, h2⟩
    unfold linesOf
    rw [if_pos hz]
    exact h1
  · refine (ofL_no z A n c w (by omega)).mono ?_
    rintro e w' ⟨rfl, rfl⟩
    refine ⟨_, by unfold badOf; rw [if_neg hz], ?_, Below.refl _ _⟩
    unfold linesOf
    rw [if_neg hz]
    exact lns_nil _ _
theorem refOf_all (z : Int) (x : List UInt8) (B : Option Addr) (n c : Nat) (w : World) (hB : Rd w (· < w.heap.size) B x) (hn : n = x.length) (hl : n ≤ 1000) :
    Calls Tryd.prog 31 #[.int .i64 z, .slice B n c] w (OfZ z x w) := by
  by_cases hz : 1 ≤ z ∧ z ≤ 65536
  · obtain ⟨most, rfl⟩ : ∃ most : Nat, z = (most : Int) := ⟨z.toNat, by omega⟩
    refine (refOfL_yes most x B n c w (by omega) (by omega) hB hn hl).mono ?_
    rintro e w' ⟨v, rfl, h1, h2⟩
    refine ⟨v, by unfold badOf; rw [if_pos hz], ?_, h2⟩
    unfold linesOf
    rw [if_pos hz]
    exact h1
  · refine (refOfL_no z B n c w (by omega)).mono ?_
    rintro e w' ⟨rfl, hb⟩
    refine ⟨_, by unfold badOf; rw [if_neg hz], ?_, hb⟩
    unfold linesOf
    rw [if_neg hz]
    exact lns_nil _ _
/-- What the iterator rests on. -/
def EaAt (z : Int) (x : List UInt8) (bM p : Nat) (PA : Option Addr) (pc : Nat) (W : World) : Prop :=
  Has W bM 3 #[.int .i64 z] ∧ Has W p 39 #[.slice PA (pcs x).length pc] ∧
    (∀ (k : Nat) (y : List UInt8), (pcs x)[k]? = some y → ∃ (g : Nat) (cs : Array Value) (A : Option Addr) (c : Nat), PA = some ⟨g, 0, none⟩ ∧ Has W g 22 cs ∧ cs[k]? = some (Value.slice A y.length c) ∧ Rd W (fun q => q < W.heap.size) A y)
theorem EaAt.below {z : Int} {x : List UInt8} {bM p : Nat} {PA : Option Addr} {pc : Nat} {W W' : World} (h : EaAt z x bM p PA pc W) (hb : Below W.heap.size W W') : EaAt z x bM p PA pc W' := by
  obtain ⟨h1, h2, h3⟩ := h
  refine ⟨h1.below hb h1.lt, h2.below hb h2.lt, fun k y hy => ?_⟩
  obtain ⟨g, cs, A, c, e, a, b, d⟩ := h3 k y hy
  exact ⟨g, cs, A, c, e, a.below hb a.lt, b, (d.kept (Kept.below hb (fun q hq => hq))).mono (fun q hq => Nat.lt_of_lt_of_le hq hb.size)⟩
theorem each1_at (z : Int) (x : List UInt8) (w7 W : World) (bM p k : Nat) (PA : Option Addr) (pc : Nat) (hb : Below w7.heap.size w7 W) (hk : w7.heap.size ≤ k) (hkW : k < W.heap.size) (hxl : x.length ≤ 4096) (hT : Tab w7) (hE : Ends w7) (h : EaAt z x bM p PA pc w7) :
    SeqTurn 2 Tryd.prog 57 #[.pointer (some ⟨bM, 0, none⟩), .pointer (some ⟨p, 0, none⟩)] encLn (KeepL W.heap.size (· = k)) (fun _ => False) (fun ys => ys = numL 0 (linesOf z x)) (fun pre => ∃ a b, linesOf z x = a ++ b ∧ pre = numL 0 a) (fun _ => True) (linesOf z x).length W := by
  obtain ⟨h1, h2, h3⟩ := h
  have t1 := hT.lt
  have t2 := hE.lt
  have l1 := h1.lt
  have l2 := h2.lt
  have hs := hb.size
  refine each1_stops z x bM p W.heap.size (· = k) PA pc W (Nat.le_refl _) (fun j hj => by omega) (fun hj => by omega) (fun hj => by omega) hxl (hT.below hb) (by omega) (fun hj => by omega) (hE.below hb) (by omega) (fun hj => by omega) (h1.below hb l1) (h2.below hb l2) ?_
  intro i y hy
  obtain ⟨g, cs, A, c, e, a, b, d⟩ := h3 i y hy
  have l3 := a.lt
  exact ⟨g, cs, A, c, e, fun hj => by omega, a.below hb l3, b, (d.kept (Kept.below hb (fun q hq => hq))).mono (fun q hq => ⟨by have : q < w7.heap.size := hq; omega, fun hj => by have : q < w7.heap.size := hq; omega⟩)⟩
/-! What lies while the lines are gone over. -/
theorem Turn.belowT {B n : Nat} {a b w : World} (h : Turn B (fun _ => False) a b) (hw : Below n w a) (hn : n ≤ B) (hs : n ≤ a.heap.size) : Below n w b :=
  ⟨h.os.trans hw.os, h.tape.trans hw.tape, h.output.trans hw.output, Nat.le_trans hw.size h.size, fun k hk => (h.low k (by omega) (by omega) (fun f => f)).trans (hw.block k hk)⟩
def OM (w7 : World) (T k : Nat) (t : Int) (ds : List Nat) (n : Int) (W : World) : Prop :=
  Below w7.heap.size w7 W ∧ Has W T 3 #[.int .i64 t] ∧ Has W k 3 #[.int .i64 n] ∧ ∀ D ∈ ds, NoCalls W D
theorem OM.turn {w7 X Y : World} {T k : Nat} {t : Int} {ds : List Nat} {n : Int} {B : Nat} (h : OM w7 T k t ds n X) (ht : Turn B (fun _ => False) X Y) (hB : w7.heap.size ≤ B) (hds : ∀ D ∈ ds, D < B) : OM w7 T k t ds n Y :=
  ⟨ht.belowT h.1 hB h.1.size, ht.has h.2.1 (by decide), ht.has h.2.2.1 (by decide), fun D hD => ht.obj (h.2.2.2 D hD) rfl (hds D hD)⟩
theorem OM.count {w7 W : World} {T k : Nat} {t : Int} {ds : List Nat} {n : Int} (h : OM w7 T k t ds n W) (hk : w7.heap.size ≤ k) (hTk : T ≠ k) (n' : Int) : OM w7 T k t ds n' (W.setCell ⟨k, 0, none⟩ (.int .i64 n')) :=
  ⟨h.1.setCell (p := ⟨k, 0, none⟩) hk _, h.2.1.other hTk _, h.2.2.1.put 0 _, fun D hD => (h.2.2.2 D hD).set h.2.2.1 _⟩
theorem OM.drewN {w7 W : World} {T k : Nat} {t : Int} {ds : List Nat} {n : Int} (h : OM w7 T k t ds n W) (q : Nat) : OM w7 T k t ds n (W.drewN q) := ⟨below_draws h.1 q, h.2.1, h.2.2.1, h.2.2.2⟩
theorem KeepL.drewN {n0 : Nat} {Wr : Nat → Prop} {A B : World} (h : KeepL n0 Wr A B) (q : Nat) : KeepL n0 Wr A (B.drewN q) := ⟨h.size, h.low, h.high⟩
def olCount (m : Int) (N : Nat) (t : Int) : Int := if t = 0 then min (N : Int) (max 1 m) else N
abbrev Ln3 := Nat × List UInt8 × Bool
def FitL (ls : List (List UInt8 × Bool)) (pre : List Ln3) : Prop := ∃ a b, ls = a ++ b ∧ pre = numL 0 a
def OI (w7 : World) (ls : List (List UInt8 × Bool)) (m : Int) (T k : Nat) (t : Int) (ds : List Nat) (pre : List Ln3) (W : World) : Prop :=
  (FitL ls pre ∧ (t = 0 → pre.length = 0 ∨ (pre.length : Int) < m)) ∧ OM w7 T k t ds pre.length W
def OX (w7 : World) (ls : List (List UInt8 × Bool)) (m : Int) (T k : Nat) (t : Int) (ds : List Nat) (c : Code) (pre : List Ln3) (W : World) : Prop :=
  (c = .ret ∧ ¬ FitL ls pre) ∨ (c = .exit 2 ∧ t = 0 ∧ FitL ls pre ∧ m ≤ (pre.length : Int) ∧ (pre.length = 1 ∨ (pre.length : Int) - 1 < m) ∧ 0 < pre.length ∧ OM w7 T k t ds pre.length W)
theorem numL_get : ∀ (l : List (List UInt8 × Bool)) (n i : Nat), (numL n l)[i]? = l[i]?.map fun x => (n + i, x)
  | [], _, _ => by simp [numL]
  | x :: r, n, 0 => by simp [numL]
  | x :: r, n, i + 1 => by
    simp only [numL, List.getElem?_cons_succ, numL_get r (n + 1) i]
    rw [show n + 1 + i = n + (i + 1) from by omega]
theorem fitL_len {ls : List (List UInt8 × Bool)} {pre : List Ln3} (h : FitL ls pre) : pre.length ≤ ls.length := by
  obtain ⟨a, b, rfl, rfl⟩ := h
  rw [numL_length]; simp
theorem fitL_next {ls : List (List UInt8 × Bool)} {pre : List Ln3} {y : List UInt8 × Bool} (h : FitL ls pre) (hy : ls[pre.length]? = some y) : FitL ls (pre ++ [(pre.length, y)]) := by
  obtain ⟨a, b, rfl, rfl⟩ := h
  rw [numL_length] at hy ⊢
  cases b with
  | nil => simp at hy
  | cons z r =>
    obtain rfl : z = y := by simpa using hy
    refine ⟨a ++ [z], r, by simp, ?_⟩
    rw [numL_append]
    simp [numL]
theorem fitL_last {ls : List (List UInt8 × Bool)} {pre : List Ln3} {x : Ln3} (h : FitL ls (pre ++ [x])) : x.1 = pre.length ∧ ls[pre.length]? = some x.2 := by
  obtain ⟨a, b, rfl, h2⟩ := h
  have hg := congrArg (fun l => l[pre.length]?) h2
  have hl := congrArg List.length h2
  simp only [List.length_append, List.length_singleton, numL_length] at hl
  simp only [numL_get] at hg
  rw [List.getElem?_append_right (Nat.le_refl _), Nat.sub_self] at hg
  simp only [List.getElem?_cons_zero, Nat.zero_add] at hg
  rw [List.getElem?_append_left (by omega)]
  cases ha : a[pre.length]? with
  | none => rw [ha] at hg; simp at hg
  | some y =>
    rw [ha] at hg
    simp only [Option.map_some, Option.some.injEq] at hg
    rw [hg]
    exact ⟨rfl, rfl⟩
section
variable {w7 : World} {ls : List (List UInt8 × Bool)} {m : Int} {T k : Nat} {t : Int} {ds : List Nat}
theorem OI.turn {pre : List Ln3} {X Y : World} {B : Nat} (h : OI w7 ls m T k t ds pre X) (ht : Turn B (fun _ => False) X Y) (hB : w7.heap.size ≤ B) (hds : ∀ D ∈ ds, D < B) : OI w7 ls m T k t ds pre Y := ⟨h.1, h.2.turn ht hB hds⟩
theorem OX.turn {c : Code} {pre : List Ln3} {X Y : World} {B : Nat} (h : OX w7 ls m T k t ds c pre X) (ht : Turn B (fun _ => False) X Y) (hB : w7.heap.size ≤ B) (hds : ∀ D ∈ ds, D < B) : OX w7 ls m T k t ds c pre Y := by
  rcases h with h | ⟨h1, h2, h3, h4, h5, h6, h7⟩
  · exact .inl h
  · exact .inr ⟨h1, h2, h3, h4, h5, h6, h7.turn ht hB hds⟩
theorem ol_all {xs : List Ln3} {W : World} (h : xs = numL 0 ls) (hI : OI w7 ls m T k t ds xs W) : OM w7 T k t ds (olCount m ls.length t) W := by
  obtain ⟨⟨_, hc⟩, hM⟩ := hI
  have hl : xs.length = ls.length := by rw [h, numL_length]
  have : (xs.length : Int) = olCount m ls.length t := by
    unfold olCount
    split
    · rename_i ht
      have := hc ht
      by_cases h0 : xs.length = 0
      · omega
      · omega
    · omega
  rw [← this]; exact hM
theorem ol_left {c : Code} {pre : List Ln3} {W : World} (h : FitL ls pre) (hI : OX w7 ls m T k t ds c pre W) : c = .exit 2 ∧ OM w7 T k t ds (olCount m ls.length t) W := by
  rcases hI with ⟨_, hn⟩ | ⟨rfl, rfl, hf, h1, h2, h3, hM⟩
  · exact absurd h hn
  · refine ⟨rfl, ?_⟩
    have hle := fitL_len hf
    have : (pre.length : Int) = olCount m ls.length 0 := by unfold olCount; simp; omega
    rw [← this]; exact hM
end
end Go.Proofs.YthdmmlaahjgijaaDoor
