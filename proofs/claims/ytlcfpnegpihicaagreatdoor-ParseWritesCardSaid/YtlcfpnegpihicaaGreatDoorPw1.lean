import Derived.Test.YtlcfpnegpihicaaGreatDoorRows
import Derived.WalkKit
import Derived.ProofKit
import Derived.OpenShut
import Derived.RangeFuncNested
import Derived.RangeFuncBox
import Derived.OwnWalkIn
import Derived.Lib.Hide
import Derived.Deep.Draws
import Derived.Deep.QuietTactic
import Derived.Test.YtlcfpnegpihicaaGreatDoorProg
import Derived.WalkSpells
import Derived.WalkLawsBesides
import Derived.Maps.Own
import Derived.Maps.OwnSet
import Derived.Maps.OwnOps
import Derived.Shelf.Small.Wraps
import Derived.Shelf.Strconv.Clone
import Derived.Shelf.Strings.Cut
import Derived.Shelf.Strings.Prefix
import Derived.Shelf.Strings.Search3
namespace Go.Proofs.YtlcfpnegpihicaaGreatDoor
open Go.ChangeShapes Go.WideShapes Go.ChangeAt Go.RowKit

/-! ## What every law's row wants at its end -/
theorem own : ownKnob Tryz.prog.godebug = none := by kernel_rfl
theorem laidOut : laidOutB Tryz.prog = true := by kernel_rfl

section
variable {H : Type} {enc : TypeId × Value → H}
/-- Nothing of what lay has turned: every argument reads as it did. -/
theorem trodAll_behind {W W' : World} (hb : Below W.heap.size W W') : ∀ {ts : List TypeId} {vs : List Value} {ds : List (DataW H)} {ps : List MemPlace}, (∀ t ∈ ts, Tryz.prog.readableRec t = true ∧ t < Tryz.prog.types.size) →
    DataW.TrodAll enc Tryz.prog W 0 (fun _ => true) true ts vs ds ps → (∀ x ∈ ps, x.block < W.heap.size) → DataW.TrodAll enc Tryz.prog W' 0 (fun b => decide (b < W.heap.size)) true ts vs ds ps
  | [], [], [], _, _, h, _ => h
  | [], _ :: _, _, _, _, h, _ => h.elim
  | [], [], _ :: _, _, _, h, _ => h.elim
  | _ :: _, [], _, _, _, h, _ => h.elim
  | _ :: _, _ :: _, [], _, _, h, _ => h.elim
  | t :: ts, v :: vs, d :: ds, ps, ht, h, hl => by
    obtain ⟨p, q, h1, h2, rfl⟩ := h
    exact ⟨p, q, Below.trod laidOut (ht t List.mem_cons_self).1 (ht t List.mem_cons_self).2 h1 hb (fun x hx => hl x (List.mem_append_left _ hx)), trodAll_behind hb (fun t' h' => ht t' (List.mem_cons_of_mem _ h')) h2 (fun x hx => hl x (List.mem_append_right _ hx)), rfl⟩

/-- A law's end: true; every argument reads as it did. -/
theorem law_post {f : Func} {s : ChangeSpec} {W W' : World} {args : Array Value} {ds : List (DataW H)} {before : List MemPlace} (hv : s.vars = []) (hr : f.resultTypes = #[4])
    (hts : ∀ t ∈ f.params.toList, Tryz.prog.readableRec t = true ∧ t < Tryz.prog.types.size)
    (hW : DataW.Whole enc Tryz.prog f.params.toList s.vars false W args.toList ds [] before) (hb : Below W.heap.size W W')
    (hs : (s.fn H (ds ++ [])).results = [.lit (.bool true)] ∧ (s.fn H (ds ++ [])).args = ds ∧ (s.fn H (ds ++ [])).vars = []) :
    s.post enc Tryz.prog f false true false false W args (.bool true) W' := by
  have hlt := hW.lt
  have hW' := hW
  obtain ⟨p, q, hA, hV, rfl, _, _⟩ := hW
  refine ⟨ds, [], _, [], p, [], hW', ?_, ?_, ?_, hb.frame _, fun h => by cases h⟩
  · rw [hs.1, hr]; exact trodAll_mk1 (shut_bool Tryz.underlying4 _)
  · rw [hs.2.1]; exact trodAll_behind hb hts hA (fun x hx => hlt x (List.mem_append_left _ hx))
  · rw [hs.2.2, hv]; rfl
end

end Go.Proofs.YtlcfpnegpihicaaGreatDoor

namespace Go.Proofs.YtlcfpnegpihicaaGreatDoor
open Go.RowKit

/-! ## Small words that every layer's walks use -/

/-- A block of plain cells, known whole. -/
def Has (W : World) (k : Nat) (t : TypeId) (cs : Array Value) : Prop := W.heap[k]? = some (.cells cs t (0, 0))
theorem Has.lt {W : World} {k : Nat} {t : TypeId} {cs : Array Value} (h : Has W k t cs) : k < W.heap.size := (Array.getElem?_eq_some_iff.1 h).1
theorem Has.cell {W : World} {k : Nat} {t : TypeId} {cs : Array Value} (h : Has W k t cs) (i : Nat) : W.cell? ⟨k, i, none⟩ = cs[i]? := cell_of_row W k i cs t (0, 0) h
theorem Has.free {W : World} {k : Nat} {t : TypeId} {cs : Array Value} (h : Has W k t cs) (i : Nat) : W.frozen? ⟨k, i, none⟩ = false := by
  have h' : W.heap[k]? = some (.cells cs t (0, 0)) := h
  simp [World.frozen?, h']
theorem Has.new (W : World) (t : TypeId) (cs : Array Value) : Has (W.alloc (.cells cs t)) W.heap.size t cs := World.alloc_heap_new W _
theorem Has.alloc {W : World} {k : Nat} {t : TypeId} {cs : Array Value} (h : Has W k t cs) (o : Obj) : Has (W.alloc o) k t cs := (Below.heap_alloc W o k h.lt).trans h
theorem Has.drew {W : World} {k : Nat} {t : TypeId} {cs : Array Value} (h : Has W k t cs) : Has W.drew k t cs := h
theorem Has.put {W : World} {k : Nat} {t : TypeId} {cs : Array Value} (h : Has W k t cs) (i : Nat) (u : Value) : Has (W.setCell ⟨k, i, none⟩ u) k t (cs.setIfInBounds i u) := by
  unfold Has at h ⊢
  simp [World.setCell, Array.getElem?_modify, h]
theorem Has.other {W : World} {k : Nat} {t : TypeId} {cs : Array Value} (h : Has W k t cs) {j i : Nat} (hne : k ≠ j) (u : Value) : Has (W.setCell ⟨j, i, none⟩ u) k t cs := (Below.heap_setCell W ⟨j, i, none⟩ u k hne).trans h
theorem Has.below {W W' : World} {B k : Nat} {t : TypeId} {cs : Array Value} (h : Has W k t cs) (hb : Below B W W') (hk : k < B) : Has W' k t cs := (hb.block k hk).trans h

theorem Has.drewN {W : World} {k : Nat} {t : TypeId} {cs : Array Value} (h : Has W k t cs) (q : Nat) : Has (W.drewN q) k t cs := h
theorem others_drewN (W : World) (q : Nat) : KeepsOthers W (W.drewN q) := ⟨Nat.le_refl _, fun _ _ h _ => h⟩
theorem below_draws {B : Nat} {a w : World} (h : Below B a w) (q : Nat) : Below B a (w.drewN q) := ⟨h.os, h.tape, h.output, h.size, h.block⟩
theorem below_on {a b c : World} (h : Below a.heap.size a b) (k : Below b.heap.size b c) : Below a.heap.size a c := h.trans (k.mono h.size)
theorem others_below {W W' : World} (h : Below W.heap.size W W') : KeepsOthers W W' := ⟨h.size, fun k _ hk _ => (h.block k (Array.getElem?_eq_some_iff.1 hk).1).trans hk⟩

/-- What a sequence of bytes with their places tells. -/
def encPair (x : Nat × UInt8) : Array Value := #[.int .i64 (x.1 : Int), .int .u8 (x.2.toNat : Int)]

/-- These blocks are as they were. -/
def Kept (S : Nat → Prop) (W W' : World) : Prop := ∀ k, S k → W'.heap[k]? = W.heap[k]?
theorem Kept.refl (S : Nat → Prop) (W : World) : Kept S W W := fun _ _ => rfl
theorem Kept.trans {S : Nat → Prop} {A B C : World} (h : Kept S A B) (k : Kept S B C) : Kept S A C := fun j hj => (k j hj).trans (h j hj)
theorem kept_b {S : Nat → Prop} {w : World} (hS : ∀ k, S k → k < w.heap.size) (W : World) (l : Nat) (o o' : Obj) (hl : w.heap.size ≤ l) (_ : W.heap[l]? = some o) (_ : o.isCells = false) (_ : o.isWalk = false) : Kept S W (W.putObj l o') :=
  fun k hk => World.putObj_heap_other (by have := hS k hk; omega)
theorem Kept.draws {S : Nat → Prop} {A B : World} (h : Kept S A B) (q : Nat) : Kept S A (B.drewN q) := h
theorem Kept.setCell {S : Nat → Prop} {A B : World} (h : Kept S A B) {p : Addr} (hp : ¬ S p.block) (u : Value) : Kept S A (B.setCell p u) :=
  fun k hk => (Below.heap_setCell B p u k (fun e => hp (e ▸ hk))).trans (h k hk)
theorem Kept.below {S : Nat → Prop} {A B : World} {n : Nat} (h : Below n A B) (hS : ∀ k, S k → k < n) : Kept S A B := fun k hk => h.block k (hS k hk)
theorem Kept.has {S : Nat → Prop} {W W' : World} {k : Nat} {t : TypeId} {cs : Array Value} (h : Kept S W W') (hk : S k) (hh : Has W k t cs) : Has W' k t cs := (h k hk).trans hh

/-- What is said of one block below B stays said while other blocks from B on turn. -/
theorem has_from {β : Type} {B k : Nat} (hk : k < B) (t : TypeId) (f : β → Array Value) : OwnFrom B (fun s W => Has W k t (f s)) := fun s X Y row hs hg hr =>
  (hg.block k hs.lt (fun e => by have := (hr k e.symm).1; omega)).trans hs
end Go.Proofs.YtlcfpnegpihicaaGreatDoor

namespace Go.Proofs.YtlcfpnegpihicaaGreatDoor
open Go.RowKit Go.Maps

/-! ## A region in whatever order: by what holds of those operations that are done -/
theorem wpAny_inv {P : Program} {ops : Array Oper} {Q : Exit → Act → World → Prop} {md : Region.Mode} (I : Array Bool → Act → World → Prop)
    (hend : ∀ listed a w, listed.size = ops.size → I listed a w → Region.ready md ops listed = [] → Q .normal a w)
    (hstep : ∀ listed a w i, listed.size = ops.size → i ∈ Region.ready md ops listed → I listed a w → wpOp P ops Q i (I (listed.setIfInBounds i true)) a w) :
    ∀ (fuel : Nat) (listed : Array Bool) (a : Act) (w : World), listed.size = ops.size → listed.toList.count false ≤ fuel → I listed a w → wpAny P md ops Q fuel listed a w
  | 0, listed, a, w, hs, hf, hI => by
    have hr : Region.ready md ops listed = [] := by
      refine List.eq_nil_iff_forall_not_mem.2 fun i hi => ?_
      obtain ⟨h1, _⟩ := mem_ready.1 hi
      have hlt : i < listed.size := by
        rcases Nat.lt_or_ge i listed.size with h | h
        · exact h
        · simp [Array.getD, show ¬ i < listed.size by omega] at h1
      have : false ∈ listed.toList := by
        rw [Array.mem_toList_iff]
        refine Array.mem_iff_getElem.2 ⟨i, hlt, ?_⟩
        simpa [Array.getD, hlt] using h1
      have := List.count_pos_iff.2 this
      omega
    exact ⟨hr, hend _ _ _ hs hI hr⟩
  | fuel + 1, listed, a, w, hs, hf, hI => by
    refine ⟨fun hr => hend _ _ _ hs hI hr, fun i hi => ?_⟩
    obtain ⟨h1, _⟩ := mem_ready.1 hi
    have hlt : i < listed.size := by
      rcases Nat.lt_or_ge i listed.size with h | h
      · exact h
      · simp [Array.getD, show ¬ i < listed.size by omega] at h1
    have hv : listed.toList[i]'(by simpa using hlt) = false := by
      have : listed[i] = false := by simpa [Array.getD, hlt] using h1
      simpa using this
    have hc : (listed.setIfInBounds i true).toList.count false ≤ fuel := by
      have e : (listed.setIfInBounds i true).toList = listed.toList.set i true := by simp
      rw [e, List.count_set (by simpa using hlt)]
      simp [hv]
      simp at hf
      omega
    exact wpOp_mono (fun a' w' h => wpAny_inv I hend hstep fuel _ a' w' (by simpa using hs) hc h) (hstep _ _ _ _ hs hi hI)
/-- Where each operation rests on earlier ones alone, nothing is ready just if all is done. -/
def backB (md : Region.Mode) (ops : Array Oper) : Bool := ops.toList.zipIdx.all fun (o, j) => o.after.all fun e => !Region.binds md e || decide (e.on < j)
theorem all_done {ops : Array Oper} {md : Region.Mode} (hb : backB md ops = true) {listed : Array Bool} (hs : listed.size = ops.size) (hr : Region.ready md ops listed = []) : ∀ j, j < ops.size → listed.getD j false = true := by
  intro j
  induction j using Nat.strongRecOn with
  | ind j ih =>
    intro hj
    cases hl : listed.getD j false with
    | true => rfl
    | false =>
      have hjl : j < listed.size := by omega
      have hm : j ∈ Region.ready md ops listed := by
        refine mem_ready.2 ⟨?_, ops[j], by simp, fun e he hbd => ?_⟩
        · simpa [Array.getD, hjl] using hl
        · unfold backB at hb
          rw [List.all_eq_true] at hb
          have := hb (ops[j], j) (by rw [List.mk_mem_zipIdx_iff_getElem?]; simp)
          simp only [Array.all_eq_true_iff_forall_mem] at this
          have := this e he
          simp [hbd] at this
          exact ih _ this (by omega)
      rw [hr] at hm
      exact absurd hm (List.not_mem_nil)
/-! ## The map of Kinds -/
def namesL : List (List UInt8) := [[], [101, 110, 100], [99, 111, 109, 109, 101, 110, 116], [100, 97, 116, 97], [101, 118, 101, 110, 116], [105, 100], [114, 101, 116, 114, 121], [111, 116, 104, 101, 114]]
/-- The table of Kinds' names lies as its text lays it. -/
def NamesT (W : World) : Prop := ∃ t, W.heap[5]? = some (.cells (namesL.map fun s => Value.string ⟨s.toArray⟩).toArray t (0, 0))
theorem NamesT.below {W W' : World} (h : NamesT W) (hb : Below W.heap.size W W') : NamesT W' := by
  obtain ⟨t, h⟩ := h
  exact ⟨t, (hb.block _ (Array.getElem?_eq_some_iff.1 h).1).trans h⟩
theorem NamesT.lt {W : World} (h : NamesT W) : 5 < W.heap.size := by
  obtain ⟨t, h⟩ := h
  exact (Array.getElem?_eq_some_iff.1 h).1
theorem keysK : Keyed Tryz.prog 9 := string_keyed Tryz.underlying9
noncomputable def kElem : Value → Option (DataW Unit × List MemPlace) := plainElem Tryz.prog 102
def kOne (b : Bool) (i : Nat) : List (Lit × DataW Unit) := if b then [(.string (namesL.getD i []), .lit (.int .i64 (i : Int)))] else []
/-- What the map reads as when some names are in it. -/
def KD (b3 b4 b5 b6 : Bool) : DataW Unit := .map (kOne b3 3 ++ kOne b4 4 ++ kOne b5 5 ++ kOne b6 6)
theorem kd3 (y z u : Bool) : (KD false y z u).put (.string [100, 97, 116, 97]) (.lit (.int .i64 3)) = KD true y z u := by cases y <;> cases z <;> cases u <;> rfl
theorem kd4 (x z u : Bool) : (KD x false z u).put (.string [101, 118, 101, 110, 116]) (.lit (.int .i64 4)) = KD x true z u := by cases x <;> cases z <;> cases u <;> rfl
theorem kd5 (x y u : Bool) : (KD x y false u).put (.string [105, 100]) (.lit (.int .i64 5)) = KD x y true u := by cases x <;> cases y <;> cases u <;> rfl
theorem kd6 (x y z : Bool) : (KD x y z false).put (.string [114, 101, 116, 114, 121]) (.lit (.int .i64 6)) = KD x y z true := by cases x <;> cases y <;> cases z <;> rfl
/-- What holds while the map is filled. -/
def KI (w0 : World) (l : Array Bool) (a : Act) (W : World) : Prop :=
  ∃ (b : Nat) (t0 t1 t2 t3 t4 t5 t6 t7 t8 t9 t10 : Value), a = { tmps := #[t0, t1, t2, t3, t4, t5, t6, t7, t8, t9, t10], defers := [] } ∧ w0.heap.size ≤ b ∧ Below w0.heap.size w0 W ∧
    (l.getD 0 false = true → t1 = .map (some b) ∧ W.ownsMap Tryz.prog 9 kElem b 4 (KD (l.getD 3 false) (l.getD 6 false) (l.getD 9 false) (l.getD 12 false))) ∧
    (l.getD 0 false = false → l.getD 3 false = false ∧ l.getD 6 false = false ∧ l.getD 9 false = false ∧ l.getD 12 false = false ∧ l.getD 13 false = false ∧ l.getD 14 false = false) ∧
    (l.getD 1 false = true → t2 = .pointer (some ⟨5, 3, none⟩)) ∧ (l.getD 2 false = true → t3 = .string ⟨#[100, 97, 116, 97]⟩) ∧
    (l.getD 4 false = true → t4 = .pointer (some ⟨5, 4, none⟩)) ∧ (l.getD 5 false = true → t5 = .string ⟨#[101, 118, 101, 110, 116]⟩) ∧
    (l.getD 7 false = true → t6 = .pointer (some ⟨5, 5, none⟩)) ∧ (l.getD 8 false = true → t7 = .string ⟨#[105, 100]⟩) ∧
    (l.getD 10 false = true → t8 = .pointer (some ⟨5, 6, none⟩)) ∧ (l.getD 11 false = true → t9 = .string ⟨#[114, 101, 116, 114, 121]⟩) ∧
    (l.getD 13 false = true → t10 = .map (some b)) ∧ (l.getD 14 false = true → t0 = .map (some b))
theorem getD_set {l : Array Bool} {i : Nat} (h : i < l.size) (j : Nat) : (l.setIfInBounds i true).getD j false = if j = i then true else l.getD j false := by
  simp only [Array.getD_eq_getD_getElem?, Array.getElem?_setIfInBounds]
  by_cases e : i = j
  · subst e; simp [h]
  · rw [if_neg e, if_neg (fun h => e h.symm)]
/-- Of a map of four entries at most that grows by one, by its reading. -/
theorem own_four {W : World} {b : Nat} {D : DataW Unit} {n : Nat} (h : W.ownsMap Tryz.prog 9 kElem b n D) {es : List (Lit × DataW Unit)} (hD : D = .map es) (hl : es.length ≤ 4) : W.ownsMap Tryz.prog 9 kElem b 4 D := by
  obtain ⟨e, clock, hb, F, hs, hd⟩ := h
  refine ⟨e, clock, hb, F, ?_, hd⟩
  have e1 : e.size = ((e.toList.map (WideElems.rg Tryz.prog 9 kElem)).foldr DataW.insert []).length := by rw [length_sorted]; simp
  rw [hD] at hd
  injection hd with hd
  rw [e1, ← hd]
  exact hl
theorem kd_len (x y z u : Bool) : (kOne x 3 ++ kOne y 4 ++ kOne z 5 ++ kOne u 6).length ≤ 4 := by cases x <;> cases y <;> cases z <;> cases u <;> decide
set_option maxRecDepth 100000 in
theorem kinds_any (w : World) (hN : NamesT w) : Calls Tryz.prog 146 #[] w fun e w' => ∃ b, e = .returned (.map (some b)) ∧ w'.ownsMap Tryz.prog 9 kElem b 4 (KD true true true true) ∧ Below w.heap.size w w' := by
  go_enter Tryz.func146, Tryz.ntmps146
  go_wp2
  refine wp_region_any (by kernel_rfl) ?_
  refine wpAny_inv (KI w) ?_ ?_ _ _ _ _ rfl (by decide) ?_
  · intro l a W hs hI hr
    have hd := all_done (by kernel_rfl) hs hr
    obtain ⟨b, t0, t1, t2, t3, t4, t5, t6, t7, t8, t9, t10, rfl, hb, hB, h0, _, _, _, _, _, _, _, _, _, _, h14⟩ := hI
    obtain ⟨_, hown⟩ := h0 (hd 0 (by decide))
    obtain rfl := h14 (hd 14 (by decide))
    rw [hd 3 (by decide), hd 6 (by decide), hd 9 (by decide), hd 12 (by decide)] at hown
    have hown' := Lib.hid hown
    have hB' := Lib.hid hB
    clear hown hB hd h0 h14 hr
    go_wp2
    go_ret
    exact ⟨b, rfl, hown'.out, hB'.out⟩
  · intro l a W i hs hi hI
    obtain ⟨hi1, o, ho, hdep⟩ := mem_ready.1 hi
    have hil : i < l.size := by
      rcases Nat.lt_or_ge i l.size with h | h
      · exact h
      · simp [Array.getD, show ¬ i < l.size by omega] at hi1
    have hil2 : i < 15 := by rw [hs] at hil; exact hil
    have hst := getD_set hil
    obtain ⟨b, t0, t1, t2, t3, t4, t5, t6, t7, t8, t9, t10, rfl, hb, hB, h0, hn, h1, h2, h4, h5, h7, h8, h10, h11, h13, h14⟩ := hI
    have hNW := hN.below hB
    obtain ⟨nt, hnt⟩ := hNW
    have c3 := cell_of_row W 5 3 _ nt (0, 0) hnt
    have c4 := cell_of_row W 5 4 _ nt (0, 0) hnt
    have c5 := cell_of_row W 5 5 _ nt (0, 0) hnt
    have c6 := cell_of_row W 5 6 _ nt (0, 0) hnt
    simp [namesL] at c3 c4 c5 c6
    rcases (by omega : i = 0 ∨ i = 1 ∨ i = 2 ∨ i = 3 ∨ i = 4 ∨ i = 5 ∨ i = 6 ∨ i = 7 ∨ i = 8 ∨ i = 9 ∨ i = 10 ∨ i = 11 ∨ i = 12 ∨ i = 13 ∨ i = 14) with rfl | rfl | rfl | rfl | rfl | rfl | rfl | rfl | rfl | rfl | rfl | rfl | rfl | rfl | rfl
    · obtain ⟨n3, n6, n9, n12, n13, n14⟩ := hn (by simpa [Array.getD, hil] using hi1)
      clear hnt hi ho hdep
      have hrm := run_makeMap (P := Tryz.prog) 237 W
      simp [wpOp, Region.wanted, Oper.wp, execOp, go_sem, hrm]
      refine .inl ⟨W.heap.size, _, _, _, _, _, _, _, _, _, _, _, rfl, hB.size, hB.alloc hB.size _, ?_, ?_, ?_, ?_, ?_, ?_, ?_, ?_, ?_, ?_, ?_, ?_⟩ <;> (simp only [hst, Nat.reduceEqDiff, reduceIte]; first | assumption | skip)
      · intro _
        rw [n3, n6, n9, n12]
        exact ⟨trivial, (World.ownsMap_made W Tryz.prog 9 kElem).mono (by decide)⟩
      · intro h; cases h
      · intro h; rw [n13] at h; cases h
      · intro h; rw [n14] at h; cases h
    · clear hnt hi ho hdep
      simp [wpOp, Region.wanted, Oper.wp, execOp, go_sem]
      refine .inl ⟨b, _, _, _, _, _, _, _, _, _, _, _, rfl, hb, hB, ?_, ?_, ?_, ?_, ?_, ?_, ?_, ?_, ?_, ?_, ?_, ?_⟩ <;> (simp only [hst, Nat.reduceEqDiff, reduceIte]; first | assumption | (intro _; first | rfl | trivial))
    · clear hnt hi
      simp at ho
      subst ho
      have d1 := hdep ⟨1, .data⟩ (by simp) rfl
      obtain rfl := h1 d1
      simp [wpOp, Region.wanted, Oper.wp, execOp, go_sem, c3]
      refine .inl ⟨b, _, _, _, _, _, _, _, _, _, _, _, rfl, hb, hB, ?_, ?_, ?_, ?_, ?_, ?_, ?_, ?_, ?_, ?_, ?_, ?_⟩ <;> (simp only [hst, Nat.reduceEqDiff, reduceIte]; first | assumption | (intro _; first | rfl | trivial))
    · clear hnt hi
      simp at ho
      subst ho
      have d0 := hdep ⟨0, .data⟩ (by simp) rfl
      have d2 := hdep ⟨2, .data⟩ (by simp) rfl
      have hf : l.getD 3 false = false := by simpa [Array.getD, hil] using hi1
      obtain ⟨rfl, hown⟩ := h0 d0
      obtain rfl := h2 d2
      rw [hf] at hown
      obtain ⟨w', hrun, r1, r2⟩ := hown.update keysK Tryz.underlying237 (by decide) (key := .string ⟨#[100, 97, 116, 97]⟩) (val := .int .i64 3) (kl := .string [100, 97, 116, 97]) (d := .lit (.int .i64 3)) (ps := []) (WideMaps.keyOf_string_mk Tryz.underlying9 (by decide)) (plainElem_int Tryz.underlying102 (by decide))
      rw [kd3] at r1
      have r1 := own_four r1 rfl (kd_len _ _ _ _)
      simp [wpOp, Region.wanted, Oper.wp, execOp, go_sem, hrun]
      refine .inl ⟨b, _, _, _, _, _, _, _, _, _, _, _, rfl, hb, hB.grown r2 hB.size (fun g e => by cases e; exact hb), ?_, ?_, ?_, ?_, ?_, ?_, ?_, ?_, ?_, ?_, ?_, ?_⟩ <;> (simp only [hst, Nat.reduceEqDiff, reduceIte]; first | assumption | exact fun _ => ⟨rfl, r1⟩ | exact fun _ => ⟨trivial, r1⟩ | exact (fun h => by rw [d0] at h; cases h) | (intro _; first | rfl | trivial))
    · clear hnt hi ho hdep
      simp [wpOp, Region.wanted, Oper.wp, execOp, go_sem]
      refine .inl ⟨b, _, _, _, _, _, _, _, _, _, _, _, rfl, hb, hB, ?_, ?_, ?_, ?_, ?_, ?_, ?_, ?_, ?_, ?_, ?_, ?_⟩ <;> (simp only [hst, Nat.reduceEqDiff, reduceIte]; first | assumption | (intro _; first | rfl | trivial))
    · clear hnt hi
      simp at ho
      subst ho
      have d4 := hdep ⟨4, .data⟩ (by simp) rfl
      obtain rfl := h4 d4
      simp [wpOp, Region.wanted, Oper.wp, execOp, go_sem, c4]
      refine .inl ⟨b, _, _, _, _, _, _, _, _, _, _, _, rfl, hb, hB, ?_, ?_, ?_, ?_, ?_, ?_, ?_, ?_, ?_, ?_, ?_, ?_⟩ <;> (simp only [hst, Nat.reduceEqDiff, reduceIte]; first | assumption | (intro _; first | rfl | trivial))
    · clear hnt hi
      simp at ho
      subst ho
      have d0 := hdep ⟨0, .data⟩ (by simp) rfl
      have d5 := hdep ⟨5, .data⟩ (by simp) rfl
      have hf : l.getD 6 false = false := by simpa [Array.getD, hil] using hi1
      obtain ⟨rfl, hown⟩ := h0 d0
      obtain rfl := h5 d5
      rw [hf] at hown
      obtain ⟨w', hrun, r1, r2⟩ := hown.update keysK Tryz.underlying237 (by decide) (key := .string ⟨#[101, 118, 101, 110, 116]⟩) (val := .int .i64 4) (kl := .string [101, 118, 101, 110, 116]) (d := .lit (.int .i64 4)) (ps := []) (WideMaps.keyOf_string_mk Tryz.underlying9 (by decide)) (plainElem_int Tryz.underlying102 (by decide))
      rw [kd4] at r1
      have r1 := own_four r1 rfl (kd_len _ _ _ _)
      simp [wpOp, Region.wanted, Oper.wp, execOp, go_sem, hrun]
      refine .inl ⟨b, _, _, _, _, _, _, _, _, _, _, _, rfl, hb, hB.grown r2 hB.size (fun g e => by cases e; exact hb), ?_, ?_, ?_, ?_, ?_, ?_, ?_, ?_, ?_, ?_, ?_, ?_⟩ <;> (simp only [hst, Nat.reduceEqDiff, reduceIte]; first | assumption | exact fun _ => ⟨rfl, r1⟩ | exact fun _ => ⟨trivial, r1⟩ | exact (fun h => by rw [d0] at h; cases h) | (intro _; first | rfl | trivial))
    · clear hnt hi ho hdep
      simp [wpOp, Region.wanted, Oper.wp, execOp, go_sem]
      refine .inl ⟨b, _, _, _, _, _, _, _, _, _, _, _, rfl, hb, hB, ?_, ?_, ?_, ?_, ?_, ?_, ?_, ?_, ?_, ?_, ?_, ?_⟩ <;> (simp only [hst, Nat.reduceEqDiff, reduceIte]; first | assumption | (intro _; first | rfl | trivial))
    · clear hnt hi
      simp at ho
      subst ho
      have d7 := hdep ⟨7, .data⟩ (by simp) rfl
      obtain rfl := h7 d7
      simp [wpOp, Region.wanted, Oper.wp, execOp, go_sem, c5]
      refine .inl ⟨b, _, _, _, _, _, _, _, _, _, _, _, rfl, hb, hB, ?_, ?_, ?_, ?_, ?_, ?_, ?_, ?_, ?_, ?_, ?_, ?_⟩ <;> (simp only [hst, Nat.reduceEqDiff, reduceIte]; first | assumption | (intro _; first | rfl | trivial))
    · clear hnt hi
      simp at ho
      subst ho
      have d0 := hdep ⟨0, .data⟩ (by simp) rfl
      have d8 := hdep ⟨8, .data⟩ (by simp) rfl
      have hf : l.getD 9 false = false := by simpa [Array.getD, hil] using hi1
      obtain ⟨rfl, hown⟩ := h0 d0
      obtain rfl := h8 d8
      rw [hf] at hown
      obtain ⟨w', hrun, r1, r2⟩ := hown.update keysK Tryz.underlying237 (by decide) (key := .string ⟨#[105, 100]⟩) (val := .int .i64 5) (kl := .string [105, 100]) (d := .lit (.int .i64 5)) (ps := []) (WideMaps.keyOf_string_mk Tryz.underlying9 (by decide)) (plainElem_int Tryz.underlying102 (by decide))
      rw [kd5] at r1
      have r1 := own_four r1 rfl (kd_len _ _ _ _)
      simp [wpOp, Region.wanted, Oper.wp, execOp, go_sem, hrun]
      refine .inl ⟨b, _, _, _, _, _, _, _, _, _, _, _, rfl, hb, hB.grown r2 hB.size (fun g e => by cases e; exact hb), ?_, ?_, ?_, ?_, ?_, ?_, ?_, ?_, ?_, ?_, ?_, ?_⟩ <;> (simp only [hst, Nat.reduceEqDiff, reduceIte]; first | assumption | exact fun _ => ⟨rfl, r1⟩ | exact fun _ => ⟨trivial, r1⟩ | exact (fun h => by rw [d0] at h; cases h) | (intro _; first | rfl | trivial))
    · clear hnt hi ho hdep
      simp [wpOp, Region.wanted, Oper.wp, execOp, go_sem]
      refine .inl ⟨b, _, _, _, _, _, _, _, _, _, _, _, rfl, hb, hB, ?_, ?_, ?_, ?_, ?_, ?_, ?_, ?_, ?_, ?_, ?_, ?_⟩ <;> (simp only [hst, Nat.reduceEqDiff, reduceIte]; first | assumption | (intro _; first | rfl | trivial))
    · clear hnt hi
      simp at ho
      subst ho
      have d10 := hdep ⟨10, .data⟩ (by simp) rfl
      obtain rfl := h10 d10
      simp [wpOp, Region.wanted, Oper.wp, execOp, go_sem, c6]
      refine .inl ⟨b, _, _, _, _, _, _, _, _, _, _, _, rfl, hb, hB, ?_, ?_, ?_, ?_, ?_, ?_, ?_, ?_, ?_, ?_, ?_, ?_⟩ <;> (simp only [hst, Nat.reduceEqDiff, reduceIte]; first | assumption | (intro _; first | rfl | trivial))
    · clear hnt hi
      simp at ho
      subst ho
      have d0 := hdep ⟨0, .data⟩ (by simp) rfl
      have d11 := hdep ⟨11, .data⟩ (by simp) rfl
      have hf : l.getD 12 false = false := by simpa [Array.getD, hil] using hi1
      obtain ⟨rfl, hown⟩ := h0 d0
      obtain rfl := h11 d11
      rw [hf] at hown
      obtain ⟨w', hrun, r1, r2⟩ := hown.update keysK Tryz.underlying237 (by decide) (key := .string ⟨#[114, 101, 116, 114, 121]⟩) (val := .int .i64 6) (kl := .string [114, 101, 116, 114, 121]) (d := .lit (.int .i64 6)) (ps := []) (WideMaps.keyOf_string_mk Tryz.underlying9 (by decide)) (plainElem_int Tryz.underlying102 (by decide))
      rw [kd6] at r1
      have r1 := own_four r1 rfl (kd_len _ _ _ _)
      simp [wpOp, Region.wanted, Oper.wp, execOp, go_sem, hrun]
      refine .inl ⟨b, _, _, _, _, _, _, _, _, _, _, _, rfl, hb, hB.grown r2 hB.size (fun g e => by cases e; exact hb), ?_, ?_, ?_, ?_, ?_, ?_, ?_, ?_, ?_, ?_, ?_, ?_⟩ <;> (simp only [hst, Nat.reduceEqDiff, reduceIte]; first | assumption | exact fun _ => ⟨rfl, r1⟩ | exact fun _ => ⟨trivial, r1⟩ | exact (fun h => by rw [d0] at h; cases h) | (intro _; first | rfl | trivial))
    · clear hnt hi
      simp at ho
      subst ho
      have d0 := hdep ⟨0, .data⟩ (by simp) rfl
      obtain ⟨rfl, hown⟩ := h0 d0
      simp [wpOp, Region.wanted, Oper.wp, execOp, go_sem]
      refine .inl ⟨b, _, _, _, _, _, _, _, _, _, _, _, rfl, hb, hB, ?_, ?_, ?_, ?_, ?_, ?_, ?_, ?_, ?_, ?_, ?_, ?_⟩ <;> (simp only [hst, Nat.reduceEqDiff, reduceIte]; first | assumption | exact fun _ => ⟨rfl, hown⟩ | exact fun _ => ⟨trivial, hown⟩ | exact (fun h => by rw [d0] at h; cases h) | (intro _; first | rfl | trivial))
    · clear hnt hi
      simp at ho
      subst ho
      have d13 := hdep ⟨13, .data⟩ (by simp) rfl
      have d0 := hdep ⟨0, .phase⟩ (by simp) rfl
      obtain rfl := h13 d13
      simp [wpOp, Region.wanted, Oper.wp, execOp, go_sem]
      refine .inl ⟨b, _, _, _, _, _, _, _, _, _, _, _, rfl, hb, hB, ?_, ?_, ?_, ?_, ?_, ?_, ?_, ?_, ?_, ?_, ?_, ?_⟩ <;> (simp only [hst, Nat.reduceEqDiff, reduceIte]; first | assumption | exact (fun h => by rw [d0] at h; cases h) | (intro _; first | rfl | trivial))
  · refine ⟨w.heap.size, _, _, _, _, _, _, _, _, _, _, _, rfl, Nat.le_refl _, (Below.refl _ w).drew, ?_⟩
    simp [Array.getD]
end Go.Proofs.YtlcfpnegpihicaaGreatDoor

namespace Go.Proofs.YtlcfpnegpihicaaGreatDoor
open Go.RowKit Go.Maps

/-! ## The Kind of a name -/
def kindK (s : List UInt8) : Nat := if s = [100, 97, 116, 97] then 3 else if s = [101, 118, 101, 110, 116] then 4 else if s = [105, 100] then 5 else if s = [114, 101, 116, 114, 121] then 6 else 7
theorem kd_look (s : List UInt8) : (Maps.has (KD true true true true) (.string s) = true ∧ (KD true true true true).atKey (.string s) (.lit (.int .i64 0)) = .lit (.int .i64 (kindK s : Int))) ∨ (Maps.has (KD true true true true) (.string s) = false ∧ kindK s = 7) := by
  unfold kindK
  by_cases h1 : s = [100, 97, 116, 97]
  · subst h1; left; exact ⟨rfl, rfl⟩
  by_cases h2 : s = [101, 118, 101, 110, 116]
  · subst h2; left; exact ⟨rfl, rfl⟩
  by_cases h3 : s = [105, 100]
  · subst h3; left; exact ⟨rfl, rfl⟩
  by_cases h4 : s = [114, 101, 116, 114, 121]
  · subst h4; left; exact ⟨rfl, rfl⟩
  right
  rw [if_neg h1, if_neg h2, if_neg h3, if_neg h4]
  refine ⟨?_, rfl⟩
  simp [Maps.has, KD, kOne, namesL, Lit.sameKey]
  exact ⟨fun h => h1 h.symm, fun h => h2 h.symm, fun h => h3 h.symm, fun h => h4 h.symm⟩
theorem zeroK (w : World) : (zeroValue 102).run Tryz.prog w = .ok (.int .i64 0) w := by kernel_rfl
set_option maxRecDepth 100000 in
theorem foundK_any (b : Nat) (s : ByteArray) (w : World) (hs : s.size ≤ maxLen) (hown : w.ownsMap Tryz.prog 9 kElem b 4 (KD true true true true)) :
    Calls Tryz.prog 145 #[.map (some b), .string s, .int .i64 7] w fun e w' => e = .returned (.int .i64 (kindK s.data.toList : Int)) ∧ w = w' := by
  have hown' := Lib.hid hown
  clear hown
  rcases kd_look s.data.toList with ⟨h1, h2⟩ | ⟨h1, h2⟩
  · go_enter Tryz.func145, Tryz.ntmps145
    go_wp2_with (at_lookup; refine wpList_lookup_own_ok_int _ rfl _ _ 237 rfl 9 102 .i64 keysK Tryz.underlying237 Tryz.underlying102 (zeroK _) b 4 _ rfl hown'.out _ _ rfl (WideMaps.keyOf_string_mk Tryz.underlying9 hs) ?_; intro c hat hwc; obtain rfl : c = (kindK s.data.toList : Int) := (by rw [h2] at hat; injection hat with hat; injection hat with _ hat; exact hat.symm); rw [h1])
    go_ret
    exact ⟨rfl, rfl⟩
  · go_enter Tryz.func145, Tryz.ntmps145
    go_wp2_with (at_lookup; refine wpList_lookup_own_ok_int _ rfl _ _ 237 rfl 9 102 .i64 keysK Tryz.underlying237 Tryz.underlying102 (zeroK _) b 4 _ rfl hown'.out _ _ rfl (WideMaps.keyOf_string_mk Tryz.underlying9 hs) ?_; intro c hat hwc; rw [h1])
    go_ret
    rw [h2]
    exact ⟨rfl, rfl⟩
set_option maxRecDepth 100000 in
theorem kindOf_any (s : ByteArray) (w : World) (hs : s.size ≤ maxLen) (hN : NamesT w) : Calls Tryz.prog 127 #[.string s] w fun e w' => e = .returned (.int .i64 (kindK s.data.toList : Int)) ∧ Below w.heap.size w w' := by
  have hk := Lib.hid (kinds_any w hN)
  clear hN
  go_enter Tryz.func127, Tryz.ntmps127
  go_wp2_with (first
    | (go_at_call 146; (with_reducible refine Calls.mono hk.out ?_); rintro e w2 ⟨b, rfl, hown, hb2⟩; have hb2' := Lib.hid hb2; have hfo := Lib.hid (foundK_any b s w2 hs hown); clear hown hb2)
    | (go_at_call 145; (with_reducible refine Calls.mono hfo.out ?_); rintro e w3 ⟨rfl, rfl⟩))
  go_ret
  exact ⟨rfl, hb2'.out⟩
end Go.Proofs.YtlcfpnegpihicaaGreatDoor

/- The contracts of the library that these proofs lean on, laid at this program by the guide's own command, in plain words. -/
namespace Go.Proofs
open Go.Shelf
def Tryz.lays103_ren : Go.Shelf.Ren := ⟨fun | 103 => 125 | 210 => 143 | 206 => 156 | n => n, fun | 9 => 9 | 4 => 4 | 24 => 219 | 3 => 3 | n => n, fun | n => n⟩
theorem Tryz.lays103 : Go.Proofs.Lays.n103 Tryz.prog Tryz.lays103_ren := {
  mixed := by kernel_rfl
  f103 := Tryz.func125.trans (congrArg some (by kernel_rfl))
  f206 := Tryz.func156.trans (congrArg some (by kernel_rfl))
  f210 := Tryz.func143.trans (congrArg some (by kernel_rfl))
  t3 := Tryz.underlying3
  a3 := Tryz.isAgg3
  z3 := Tryz.sizeOf3
  v3 := Tryz.zeroValue3
  t4 := Tryz.underlying4
  a4 := Tryz.isAgg4
  z4 := Tryz.sizeOf4
  v4 := Tryz.zeroValue4
  t9 := Tryz.underlying9
  a9 := Tryz.isAgg9
  z9 := Tryz.sizeOf9
  v9 := Tryz.zeroValue9
  t24 := Tryz.underlying219
  a24 := Tryz.isAgg219
  z24 := Tryz.sizeOf219
  v24 := Tryz.zeroValue219 }
open Go.RowKit in
theorem Tryz.strings_CutPrefix (s p : ByteArray) (w : World) :
    Calls Tryz.prog 125 #[.string s, .string p] w fun e w' => e = .returned (.tuple #[.string ⟨(Lib.trimPrefix s.data.toList p.data.toList).toArray⟩, .bool (Lib.hasPrefix s.data.toList p.data.toList)]) ∧ w' = w := Any.strings_CutPrefix Tryz.lays103 s p w
def Tryz.laysM316_ren : Go.Shelf.Ren := ⟨fun | 316 => 46 | n => n, fun | 9 => 9 | 3 => 3 | 4 => 4 | 37 => 22 | 0 => 0 | 127 => 156 | 5 => 5 | n => n, fun | n => n⟩
theorem Tryz.laysM316 : Go.Proofs.LaysM.n316 Tryz.prog Tryz.laysM316_ren := {
  mixed := by kernel_rfl
  f316 := Tryz.func46.trans (congrArg some (by kernel_rfl))
  t0 := Tryz.underlying0
  a0 := Tryz.isAgg0
  z0 := Tryz.sizeOf0
  v0 := Tryz.zeroValue0
  t3 := Tryz.underlying3
  a3 := Tryz.isAgg3
  z3 := Tryz.sizeOf3
  v3 := Tryz.zeroValue3
  t4 := Tryz.underlying4
  a4 := Tryz.isAgg4
  z4 := Tryz.sizeOf4
  v4 := Tryz.zeroValue4
  t9 := Tryz.underlying9
  a9 := Tryz.isAgg9
  z9 := Tryz.sizeOf9
  v9 := Tryz.zeroValue9
  t37 := Tryz.underlying22
  a37 := Tryz.isAgg22
  z37 := Tryz.sizeOf22
  v37 := Tryz.zeroValue22
  t127 := Tryz.underlying156
  a127 := Tryz.isAgg156
  z127 := Tryz.sizeOf156
  v127 := Tryz.zeroValue156
  t5 := Tryz.underlying5
  a5 := Tryz.isAgg5
  z5 := Tryz.sizeOf5
  v5 := Tryz.zeroValue5
  i0 := by kernel_rfl
  i3 := by kernel_rfl
  i4 := by kernel_rfl
  i5 := by kernel_rfl
  i9 := by kernel_rfl
  i37 := by kernel_rfl
  i127 := by kernel_rfl }
open Go.RowKit in
theorem Tryz.stringslite_Clone (s : ByteArray) (w : World) (hlim : s.size ≤ 281474976710656) :
    Calls Tryz.prog 46 #[.string s] w fun e w' => e = .returned (.string s) ∧ Below w.heap.size w w' := Any.stringslite_Clone Tryz.laysM316 s w hlim
def Tryz.lays144_ren : Go.Shelf.Ren := ⟨fun | 144 => 128 | 143 => 147 | 219 => 157 | 217 => 112 | 225 => 167 | 224 => 168 | 267 => 169 | 266 => 135 | 314 => 173 | n => n, fun | 9 => 9 | 4 => 4 | 3 => 3 | 5 => 5 | 46 => 246 | 146 => 267 | 51 => 266 | n => n, fun | 1 => 4 | n => n⟩
theorem Tryz.lays144 : Go.Proofs.Lays.n144 Tryz.prog Tryz.lays144_ren := {
  mixed := by kernel_rfl
  f143 := Tryz.func147.trans (congrArg some (by kernel_rfl))
  f144 := Tryz.func128.trans (congrArg some (by kernel_rfl))
  f217 := Tryz.func112.trans (congrArg some (by kernel_rfl))
  f219 := Tryz.func157.trans (congrArg some (by kernel_rfl))
  f224 := Tryz.func168.trans (congrArg some (by kernel_rfl))
  f225 := Tryz.func167.trans (congrArg some (by kernel_rfl))
  f266 := Tryz.func135.trans (congrArg some (by kernel_rfl))
  f267 := Tryz.func169.trans (congrArg some (by kernel_rfl))
  f314 := Tryz.func173.trans (congrArg some (by kernel_rfl))
  t3 := Tryz.underlying3
  a3 := Tryz.isAgg3
  z3 := Tryz.sizeOf3
  v3 := Tryz.zeroValue3
  t4 := Tryz.underlying4
  a4 := Tryz.isAgg4
  z4 := Tryz.sizeOf4
  v4 := Tryz.zeroValue4
  t5 := Tryz.underlying5
  a5 := Tryz.isAgg5
  z5 := Tryz.sizeOf5
  v5 := Tryz.zeroValue5
  t9 := Tryz.underlying9
  a9 := Tryz.isAgg9
  z9 := Tryz.sizeOf9
  v9 := Tryz.zeroValue9
  t46 := Tryz.underlying246
  a46 := Tryz.isAgg246
  z46 := Tryz.sizeOf246
  v46 := Tryz.zeroValue246
  t51 := Tryz.underlying266
  a51 := Tryz.isAgg266
  z51 := Tryz.sizeOf266
  v51 := Tryz.zeroValue266
  t146 := Tryz.underlying267
  a146 := Tryz.isAgg267
  z146 := Tryz.sizeOf267
  v146 := Tryz.zeroValue267
  g1 := by kernel_rfl }
open Go.RowKit Go.Lib in
theorem Tryz.strings_Contains_one (s : ByteArray) (c : UInt8) (w : World) :
    Calls Tryz.prog 128 #[.string s, .string ⟨#[c]⟩] w fun e w' => e = .returned (.bool (decide (0 ≤ Lib.indexByte s.data.toList c))) ∧ w' = w := Any.strings_Contains_one Tryz.lays144 s c w
def Tryz.lays145_ren : Go.Shelf.Ren := ⟨fun | 145 => 126 | 220 => 144 | 219 => 157 | 217 => 112 | 225 => 167 | 224 => 168 | 267 => 169 | 266 => 135 | 314 => 173 | n => n, fun | 9 => 9 | 4 => 4 | 59 => 221 | 3 => 3 | 5 => 5 | 46 => 246 | 146 => 267 | 51 => 266 | n => n, fun | 1 => 4 | n => n⟩
theorem Tryz.lays145 : Go.Proofs.Lays.n145 Tryz.prog Tryz.lays145_ren := {
  mixed := by kernel_rfl
  f145 := Tryz.func126.trans (congrArg some (by kernel_rfl))
  f217 := Tryz.func112.trans (congrArg some (by kernel_rfl))
  f219 := Tryz.func157.trans (congrArg some (by kernel_rfl))
  f220 := Tryz.func144.trans (congrArg some (by kernel_rfl))
  f224 := Tryz.func168.trans (congrArg some (by kernel_rfl))
  f225 := Tryz.func167.trans (congrArg some (by kernel_rfl))
  f266 := Tryz.func135.trans (congrArg some (by kernel_rfl))
  f267 := Tryz.func169.trans (congrArg some (by kernel_rfl))
  f314 := Tryz.func173.trans (congrArg some (by kernel_rfl))
  t3 := Tryz.underlying3
  a3 := Tryz.isAgg3
  z3 := Tryz.sizeOf3
  v3 := Tryz.zeroValue3
  t4 := Tryz.underlying4
  a4 := Tryz.isAgg4
  z4 := Tryz.sizeOf4
  v4 := Tryz.zeroValue4
  t5 := Tryz.underlying5
  a5 := Tryz.isAgg5
  z5 := Tryz.sizeOf5
  v5 := Tryz.zeroValue5
  t9 := Tryz.underlying9
  a9 := Tryz.isAgg9
  z9 := Tryz.sizeOf9
  v9 := Tryz.zeroValue9
  t46 := Tryz.underlying246
  a46 := Tryz.isAgg246
  z46 := Tryz.sizeOf246
  v46 := Tryz.zeroValue246
  t51 := Tryz.underlying266
  a51 := Tryz.isAgg266
  z51 := Tryz.sizeOf266
  v51 := Tryz.zeroValue266
  t59 := Tryz.underlying221
  a59 := Tryz.isAgg221
  z59 := Tryz.sizeOf221
  v59 := Tryz.zeroValue221
  t146 := Tryz.underlying267
  a146 := Tryz.isAgg267
  z146 := Tryz.sizeOf267
  v146 := Tryz.zeroValue267
  g1 := by kernel_rfl }
open Go.RowKit Go.Lib in
theorem Tryz.strings_Cut (s sep : ByteArray) (m : Int) (w : World) (hs : s.size < 4294967281) (hm : w.cell? ⟨4, 0, none⟩ = some (.int .i64 m)) :
    Calls Tryz.prog 126 #[.string s, .string sep] w fun e w' => e = .returned (.tuple #[.string ⟨(Lib.cut s.data.toList sep.data.toList).1.toArray⟩, .string ⟨(Lib.cut s.data.toList sep.data.toList).2.1.toArray⟩, .bool (Lib.cut s.data.toList sep.data.toList).2.2]) ∧ ∃ n, w' = w.drewN n := Any.strings_Cut Tryz.lays145 s sep m w hs hm
def Tryz.lays101_ren : Go.Shelf.Ren := ⟨fun | 101 => 120 | 208 => 142 | 206 => 156 | n => n, fun | 9 => 9 | 4 => 4 | 3 => 3 | n => n, fun | n => n⟩
theorem Tryz.lays101 : Go.Proofs.Lays.n101 Tryz.prog Tryz.lays101_ren := {
  mixed := by kernel_rfl
  f101 := Tryz.func120.trans (congrArg some (by kernel_rfl))
  f206 := Tryz.func156.trans (congrArg some (by kernel_rfl))
  f208 := Tryz.func142.trans (congrArg some (by kernel_rfl))
  t3 := Tryz.underlying3
  a3 := Tryz.isAgg3
  z3 := Tryz.sizeOf3
  v3 := Tryz.zeroValue3
  t4 := Tryz.underlying4
  a4 := Tryz.isAgg4
  z4 := Tryz.sizeOf4
  v4 := Tryz.zeroValue4
  t9 := Tryz.underlying9
  a9 := Tryz.isAgg9
  z9 := Tryz.sizeOf9
  v9 := Tryz.zeroValue9 }
open Go.RowKit Go.Lib in
theorem Tryz.strings_TrimPrefix (s p : ByteArray) (w : World) :
    Calls Tryz.prog 120 #[.string s, .string p] w fun e w' => e = .returned (.string ⟨(Lib.trimPrefix s.data.toList p.data.toList).toArray⟩) ∧ w' = w := Any.strings_TrimPrefix Tryz.lays101 s p w
end Go.Proofs
