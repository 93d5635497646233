import Derived.Test.YtbmemkbfignlaaaGreatDoorPk1
import Derived.Maps.AppendAt
import Derived.Deep.AppendLies
import Derived.Test.YtbmemkbfignlaaaGreatDoorProg
import Derived.Lib.AppendStr
import Derived.Lib.BufferWrite
import Derived.Deep.RegionLaw
import Derived.Deep.RegionHeld3
import Derived.WalkKit
import Derived.BigQuiet
import Derived.StillTailTactics
import Derived.Laws.DeepStrings4
import Derived.Deep.QuietTactic
namespace Go.Proofs.YtbmemkbfignlaaaGreatDoor
open Go.RowKit

/-! ## append of bytes onto a row of the call's own -/

/-- The slice at g, l.length long, is the call's own row; its first cells are these bytes. -/
def Own (W : World) (t : TypeId) (g cap : Nat) (l : List UInt8) : Prop := W.ownsRow g t 1 (.slice (some ⟨g, 0, none⟩) l.length cap) l.length (byts l)
theorem Own.rd {W : World} {t : TypeId} {g cap : Nat} {l : List UInt8} (h : Own W t g cap l) : Rd W (· = g) (some ⟨g, 0, none⟩) l := fun _ =>
  ⟨_, rfl, rfl, fun j u hu => World.ownsRow.cells (g := g) h rfl j u hu⟩
theorem Own.lt {W : World} {t : TypeId} {g cap : Nat} {l : List UInt8} (h : Own W t g cap l) : g < W.heap.size ∧ l.length ≤ cap ∧ cap ≤ maxLen := by
  rcases h.2 with ⟨h1, _⟩ | ⟨g', cap', cur, hv, _, hg, hnc, hcm, _, _⟩
  · cases h1
  · injection hv with hv _ hc
    injection hv with hv
    injection hv with hv
    subst hv; subst hc
    exact ⟨(Array.getElem?_eq_some_iff.1 hg).1, hnc, hcm⟩
/-- A literal without an element. -/
theorem own_empty (w : World) (t : TypeId) : Own (w.alloc (.cells #[] t)) t w.heap.size 0 [] :=
  ⟨rfl, .inr ⟨w.heap.size, 0, #[], rfl, Nat.le_refl _, World.alloc_heap_new w _, Nat.le_refl _, by simp [maxLen], rfl, rfl⟩⟩
theorem own_kept {W W' : World} {t : TypeId} {g cap : Nat} {l : List UInt8} (h : Own W t g cap l) (k : W'.heap[g]? = W.heap[g]?) : Own W' t g cap l := by
  refine ⟨h.1, ?_⟩
  rcases h.2 with h | ⟨g', cap', cur, hv, hb, hg, r⟩
  · exact .inl h
  · have : g' = g := by injection hv with hv; injection hv with hv; injection hv with hv; exact hv.symm
    subst this
    exact .inr ⟨g', cap', cur, hv, hb, k.trans hg, r⟩

/-- Only block g, and what is new, has turned. -/
structure Grew (g : Nat) (w w' : World) : Prop where
  os : w'.os = w.os
  tape : w'.tape = w.tape
  output : w'.output = w.output
  size : w.heap.size ≤ w'.heap.size
  block : ∀ k, k < w.heap.size → k ≠ g → w'.heap[k]? = w.heap[k]?
theorem Grew.below {g B : Nat} {w w' : World} (h : Grew g w w') (hg : B ≤ g) (hB : B ≤ w.heap.size) : Below B w w' := ⟨h.os, h.tape, h.output, h.size, fun k hk => h.block k (by omega) (by omega)⟩

section
variable {P : Program} (w : World)
theorem run_append_bytes (T ty e : TypeId) (i : TypeInfo) (z : Value) (ht : P.underlying T = some (.slice e)) (hi : P.info? e = some i) (hz : i.zero = some z) (hsize : i.size = 1) (hby : i.bytes = 1) (hzs : z.cells.size = 1)
    (g cap : Nat) (l : List UInt8) (hown : Own w e g cap l) (S : Nat → Prop) (A : Option Addr) (x : List UInt8) (c : Nat) (hx : Rd w S A x) (hs : l.length + x.length ≤ 140737488355328) :
    ∃ g' cap' w', (Builtin.append_ #[T, T] ty #[.slice (some ⟨g, 0, none⟩) l.length cap, .slice A x.length c]).run P w = .ok (.slice (some ⟨g', 0, none⟩) (l ++ x).length cap') w' ∧ Own w' e g' cap' (l ++ x) ∧ Grew g w w' ∧ (g' = g ∨ w.heap.size ≤ g') := by
  have nothing : x = [] → (Builtin.append_ #[T, T] ty #[.slice (some ⟨g, 0, none⟩) l.length cap, .slice none 0 c]).run P w = .ok (.slice (some ⟨g, 0, none⟩) l.length cap) w := fun _ => by
    have hnc := hown.lt.2.1
    simp [Builtin.append_, run_underlying ht, sizeOf, typeInfo, hi, Builtin.lenOf, Builtin.firstCells, hnc, storeCells]
  have same : Grew g w w := ⟨rfl, rfl, rfl, Nat.le_refl _, fun _ _ _ => rfl⟩
  cases A with
  | none =>
    obtain rfl : x = [] := by
      rcases Nat.eq_zero_or_pos x.length with h0 | h0
      · exact List.eq_nil_of_length_eq_zero h0
      · obtain ⟨ad, h, _⟩ := hx h0
        cases h
    refine ⟨g, cap, w, ?_, by simpa using hown, same, .inl rfl⟩
    have := nothing rfl
    simpa using this
  | some ad =>
    have hcells : ∀ j u, (byts x)[j]? = some u → w.cell? (ad.add j) = some u := by
      intro j u hu
      obtain ⟨hj, _⟩ := byts_get hu
      obtain ⟨ad', h, _, hc⟩ := hx (by omega)
      injection h with h
      subst h
      exact hc j u hu
    obtain ⟨v', w', hrun, h2, h3, h4, h5⟩ := run_append_own_at (P := P) w g T ty e i z 1 1 ht hi hz hsize hby hzs (by omega) _ _ _ hown ad x.length c (byts x) (by simp [byts_length]) hcells (byts_one x) (by simp only [maxLen]; omega) (by omega) (Nat.le_of_lt hown.lt.1)
    have hlen : (l ++ x).length = l.length + x.length := List.length_append
    have hne : v' ≠ .slice none 0 0 := fun e => by
      have := (h4.1 e).1
      cases this
    rcases h2.2 with ⟨h, _⟩ | ⟨g', cap', cur, rfl, _, hg', hnc, hcm, hcs, htk⟩
    · exact absurd h hne
    · refine ⟨g', cap', w', by rw [hlen]; exact hrun, ⟨by rw [byts_length]; omega, .inr ⟨g', cap', cur, rfl, Nat.le_refl _, hg', by omega, hcm, hcs, ?_⟩⟩, ⟨h3.os, h3.tape, h3.output, h3.size, fun k hk hne => h3.block k hk (fun e => hne (by simpa [Value.ownBlock] using e))⟩, ?_⟩
      · rw [hlen, byts_append]; exact htk
      · rcases h5 with h | h
        · left
          simpa [Value.ownBlock] using h
        · right
          have : g' = w.heap.size := by simpa [Value.ownBlock] using h
          omega
variable {w} in
theorem step_append_bytes {ops : Array Oper} {o : Oper} {a : Act} {K : Act → World → Prop} {Q : Exit → Act → World → Prop} {E : Prop} (hgd : o.guard = none) (s x : Operand) (T : TypeId)
    (ho : o.op = .call { callee := .builtin .append, args := #[s, x], argTypes := #[T, T] })
    (e : TypeId) (i : TypeInfo) (z : Value) (ht : P.underlying T = some (.slice e)) (hi : P.info? e = some i) (hz : i.zero = some z) (hsize : i.size = 1) (hby : i.bytes = 1) (hzs : z.cells.size = 1)
    (g cap : Nat) (l : List UInt8) (hv : a.eval s = .slice (some ⟨g, 0, none⟩) l.length cap) (hown : Own w e g cap l) (S : Nat → Prop) (A : Option Addr) (y : List UInt8) (c : Nat) (hxv : a.eval x = .slice A y.length c) (hx : Rd w S A y) (hs : l.length + y.length ≤ 140737488355328)
    (h : ∀ g' cap' w', Own w' e g' cap' (l ++ y) → Grew g w w' → (g' = g ∨ w.heap.size ≤ g') → K (a.put o.dst (.slice (some ⟨g', 0, none⟩) (l ++ y).length cap')) w') :
    if Region.wanted o (yielded ops a.tmps) = true then Oper.wp P o a w K Q else E := by
  have hw : Region.wanted o (yielded ops a.tmps) = true := by simp [Region.wanted, hgd]
  rw [if_pos hw]
  obtain ⟨g', cap', w', hrun, h2, h3, h4⟩ := run_append_bytes (P := P) w T o.type e i z ht hi hz hsize hby hzs g cap l hown S A y c hx hs
  unfold Oper.wp execOp
  simp only [ho, resolve, invoke, builtin, Sem.run_bind, Sem.run_pure, Result.andThen_ok, List.map_toArray, List.map_cons, List.map_nil, hv, hxv, hrun]
  exact h g' cap' w' h2 h3 h4
end
end Go.Proofs.YtbmemkbfignlaaaGreatDoor

namespace Go.Proofs.YtbmemkbfignlaaaGreatDoor
open Go.RowKit

/-! ## Bytes of the call's own, or nil (of no layer) -/
theorem byE (l : List UInt8) (j : Nat) (h : j < l.length) : (⟨l.toArray⟩ : ByteArray)[j]'h = l[j] := rfl
theorem cut_str (s : List UInt8) (j k : Nat) : (⟨s.toArray⟩ : ByteArray).extract j k = ⟨((s.take k).drop j).toArray⟩ := by
  apply ByteArray.ext
  rw [ByteArray.data_extract]
  simp [List.drop_take]
theorem exE1 (l : List UInt8) (a b : Nat) : (⟨l.toArray⟩ : ByteArray).extract a b = ⟨((l.drop a).take (b - a)).toArray⟩ := by
  rw [cut_str, List.drop_take]
theorem take_next {α : Type} (ls : List α) {j : Nat} (hj : j < ls.length) : ls.take (j + 1) = ls.take j ++ [ls[j]] := List.take_succ_eq_append_getElem hj
theorem drop_at (s : List UInt8) {i : Nat} (h : i < s.length) : s.drop i = s[i] :: s.drop (i + 1) := List.drop_eq_getElem_cons h
theorem app_str (a b : List UInt8) : (⟨a.toArray⟩ : ByteArray) ++ ⟨b.toArray⟩ = ⟨(a ++ b).toArray⟩ := by
  apply ByteArray.ext
  rw [ByteArray.data_append]
  simp
def StrR (s : List UInt8) (w : World) (e : Ending) (w' : World) : Prop := e = .returned (.string ⟨s.toArray⟩) ∧ Below w.heap.size w w'
def BoolR (b : Bool) (w : World) (e : Ending) (w' : World) : Prop := e = .returned (.bool b) ∧ Below w.heap.size w w'
def Bs (W : World) (n0 : Nat) (v : Value) (l : List UInt8) : Prop := W.ownsRow n0 5 1 v l.length (byts l)
theorem bs_nil (W : World) (n0 : Nat) : Bs W n0 (.slice none 0 0) [] := ⟨rfl, .inl ⟨rfl, rfl⟩⟩
section
variable {W W' : World} {n0 : Nat} {v : Value} {l : List UInt8}
theorem Bs.shape (h : Bs W n0 v l) : ∃ A c, v = .slice A l.length c ∧ Rd W (fun b => n0 ≤ b ∧ b < W.heap.size) A l := by
  have hh := h
  rcases h.2 with ⟨rfl, h0⟩ | ⟨g, cap, cur, rfl, hb, hg, _⟩
  · refine ⟨none, 0, by rw [h0], fun hl => by omega⟩
  · exact ⟨_, cap, rfl, fun _ => ⟨_, rfl, ⟨hb, (Array.getElem?_eq_some_iff.1 hg).1⟩, fun j u hu => World.ownsRow.cells (g := g) hh rfl j u hu⟩⟩
theorem Bs.kept (h : Bs W n0 v l) (k : ∀ g, v.ownBlock = some g → W'.heap[g]? = W.heap[g]?) : Bs W' n0 v l := by
  refine ⟨h.1, ?_⟩
  rcases h.2 with h | ⟨g, cap, cur, rfl, hb, hg, r⟩
  · exact .inl h
  · exact .inr ⟨g, cap, cur, rfl, hb, (k g rfl).trans hg, r⟩
theorem Bs.own (h : Bs W n0 v l) : ∀ g, v.ownBlock = some g → n0 ≤ g ∧ ∃ cs, Has W g 5 cs := by
  intro g hg
  rcases h.2 with ⟨rfl, _⟩ | ⟨g', cap, cur, rfl, hb, hh, r⟩
  · cases hg
  · obtain rfl : g' = g := by simpa [Value.ownBlock] using hg
    exact ⟨hb, cur, hh⟩
theorem Bs.below (h : Bs W n0 v l) (hb : Below W.heap.size W W') : Bs W' n0 v l := h.kept fun g hg => hb.block g (h.own g hg).2.choose_spec.lt
theorem Bs.mono (h : Bs W n0 v l) {n1 : Nat} (hn : n1 ≤ n0) : Bs W n1 v l := by
  refine ⟨h.1, ?_⟩
  rcases h.2 with h | ⟨g, cap, cur, rfl, hb, r⟩
  · exact .inl h
  · exact .inr ⟨g, cap, cur, rfl, Nat.le_trans hn hb, r⟩
end
theorem infoB : (Tryz.prog.info? 5).map (fun i => (i.zero, i.size, i.bytes)) = some (some (.int .u8 0), 1, 1) := by kernel_rfl
theorem info1 : (Tryz.prog.info? 5).map (·.size) = some 1 := by kernel_rfl
/-- append of bytes that are read somewhere. -/
theorem run_append_rd {w : World} {n0 : Nat} {v : Value} {l : List UInt8} (hv : Bs w n0 v l) (S : Nat → Prop) (A : Option Addr) (x : List UInt8) (c : Nat) (hx : Rd w S A x) (hs : l.length + x.length ≤ 140737488355328) (hn : n0 ≤ w.heap.size) (ty : TypeId) :
    ∃ v' w', (Builtin.append_ #[86, 86] ty #[v, .slice A x.length c]).run Tryz.prog w = .ok v' w' ∧ Bs w' n0 v' (l ++ x) ∧ w.grownBy w' v.ownBlock := by
  obtain ⟨i, hi, hz, hz1, hz2⟩ := info_parts infoB
  have nothing : x = [] → ∃ v' w', (Builtin.append_ #[86, 86] ty #[v, .slice A x.length c]).run Tryz.prog w = .ok v' w' ∧ Bs w' n0 v' (l ++ x) ∧ w.grownBy w' v.ownBlock := by
    rintro rfl
    have hl : Bs w n0 v (l ++ []) := by rw [List.append_nil]; exact hv
    have hg : w.grownBy w v.ownBlock := ⟨rfl, rfl, rfl, Nat.le_refl _, fun _ _ _ => rfl⟩
    rcases hv.2 with ⟨rfl, h0⟩ | ⟨g, cap, cur, rfl, hb, hh, hnc, hcm, _⟩
    · refine ⟨_, w, ?_, hl, hg⟩
      cases A <;> simp [Builtin.append_, run_underlying Tryz.underlying86, sizeOf, typeInfo, hi, Builtin.lenOf, Builtin.firstCells]
      all_goals
        have h0 := run_loadCells_list (P := Tryz.prog) w ‹Addr› [] (by simp)
        simp only [List.length_nil] at h0
        simp [h0]
    · refine ⟨_, w, ?_, hl, hg⟩
      cases A <;> simp [Builtin.append_, run_underlying Tryz.underlying86, sizeOf, typeInfo, hi, Builtin.lenOf, Builtin.firstCells, hnc, storeCells]
      all_goals
        have h0 := run_loadCells_list (P := Tryz.prog) w ‹Addr› [] (by simp)
        simp only [List.length_nil] at h0
        simp [h0, storeCells]
  rcases Nat.eq_zero_or_pos x.length with h0 | h0
  · exact nothing (List.eq_nil_of_length_eq_zero h0)
  · obtain ⟨ad, rfl, _, hc⟩ := hx h0
    obtain ⟨v', w', hrun, h2, h3, _, _⟩ := run_append_own_at (P := Tryz.prog) w n0 86 ty 5 i (.int .u8 0) 1 1 Tryz.underlying86 hi hz hz1 hz2 rfl (by decide) v l.length (byts l) hv ad x.length c (byts x) (by simp [byts_length]) hc (byts_one x) (by simp only [maxLen]; omega) (by omega) hn
    refine ⟨v', w', hrun, ?_, h3⟩
    unfold Bs
    rw [List.length_append, byts_append]
    exact h2
/-- append of a text's bytes. -/
theorem run_append_text {w : World} {n0 : Nat} {v : Value} {l : List UInt8} (hv : Bs w n0 v l) (s : ByteArray) (hs : l.length + s.size ≤ 140737488355328) (hn : n0 ≤ w.heap.size) (ty : TypeId) :
    ∃ v' w', (Builtin.append_ #[86, 9] ty #[v, .string s]).run Tryz.prog w = .ok v' w' ∧ Bs w' n0 v' (l ++ s.data.toList) ∧ w.grownBy w' v.ownBlock := by
  obtain ⟨i, hi, hz, hz1, hz2⟩ := info_parts infoB
  obtain ⟨v', w', hrun, h2, h3, _⟩ := Lib.run_append_own_string (P := Tryz.prog) w n0 86 9 ty 5 i Tryz.underlying86 Tryz.underlying9 hi hz hz1 hz2 v l.length (byts l) hv s (by simp only [maxLen]; omega) hs hn
  refine ⟨v', w', hrun, ?_, h3⟩
  unfold Bs
  have e : s.size = s.data.toList.length := by simp only [Array.length_toList]; rfl
  rw [List.length_append, byts_append, ← e]
  exact h2
section
variable {w : World} {ops : Array Oper} {rest : List Oper} {o : Oper} {a : Act} {Q : Exit → Act → World → Prop} {n0 : Nat} {v : Value} {l : List UInt8}
theorem wpList_append_rd (hgd : o.guard = none) (s x : Operand) (ho : o.op = .call { callee := .builtin .append, args := #[s, x], argTypes := #[86, 86] }) (hsv : a.eval s = v) (hv : Bs w n0 v l)
    (S : Nat → Prop) (A : Option Addr) (y : List UInt8) (m c : Nat) (hm : m = y.length) (hxv : a.eval x = .slice A m c) (hx : Rd w S A y) (hs : l.length + y.length ≤ 140737488355328) (hn : n0 ≤ w.heap.size)
    (h : ∀ v' w', Bs w' n0 v' (l ++ y) → w.grownBy w' v.ownBlock → wpList Tryz.prog ops Q rest (a.put o.dst v') w') : wpList Tryz.prog ops Q (o :: rest) a w := by
  subst hm
  refine wpList_plain hgd fun K hK => ?_
  obtain ⟨v', w', hrun, h2, h3⟩ := run_append_rd hv S A y c hx hs hn o.type
  unfold Oper.wp execOp
  simp only [ho, resolve, invoke, builtin, Sem.run_bind, Sem.run_pure, Result.andThen_ok, List.map_toArray, List.map_cons, List.map_nil, hsv, hxv, hrun]
  exact hK _ _ (h v' w' h2 h3)
theorem wpList_append_text (hgd : o.guard = none) (s x : Operand) (ho : o.op = .call { callee := .builtin .append, args := #[s, x], argTypes := #[86, 9] }) (hsv : a.eval s = v) (hv : Bs w n0 v l)
    (t : ByteArray) (hxv : a.eval x = .string t) (hs : l.length + t.size ≤ 140737488355328) (hn : n0 ≤ w.heap.size)
    (h : ∀ v' w', Bs w' n0 v' (l ++ t.data.toList) → w.grownBy w' v.ownBlock → wpList Tryz.prog ops Q rest (a.put o.dst v') w') : wpList Tryz.prog ops Q (o :: rest) a w := by
  refine wpList_plain hgd fun K hK => ?_
  obtain ⟨v', w', hrun, h2, h3⟩ := run_append_text hv t hs hn o.type
  unfold Oper.wp execOp
  simp only [ho, resolve, invoke, builtin, Sem.run_bind, Sem.run_pure, Result.andThen_ok, List.map_toArray, List.map_cons, List.map_nil, hsv, hxv, hrun]
  exact hK _ _ (h v' w' h2 h3)
end
section
variable {w : World} {ops : Array Oper} {o : Oper} {a : Act} {Q : Exit → Act → World → Prop} {n0 : Nat} {v : Value} {l : List UInt8}
theorem step_append_rd {K : Act → World → Prop} {E : Prop} (hgd : o.guard = none) (s x : Operand) (ho : o.op = .call { callee := .builtin .append, args := #[s, x], argTypes := #[86, 86] }) (hsv : a.eval s = v) (hv : Bs w n0 v l)
    (S : Nat → Prop) (A : Option Addr) (y : List UInt8) (m c : Nat) (hm : m = y.length) (hxv : a.eval x = .slice A m c) (hx : Rd w S A y) (hs : l.length + y.length ≤ 140737488355328) (hn : n0 ≤ w.heap.size)
    (h : ∀ v' w', Bs w' n0 v' (l ++ y) → w.grownBy w' v.ownBlock → K (a.put o.dst v') w') : if Region.wanted o (yielded ops a.tmps) = true then Oper.wp Tryz.prog o a w K Q else E := by
  subst hm
  rw [if_pos (by unfold Region.wanted; rw [hgd])]
  obtain ⟨v', w', hrun, h2, h3⟩ := run_append_rd hv S A y c hx hs hn o.type
  unfold Oper.wp execOp
  simp only [ho, resolve, invoke, builtin, Sem.run_bind, Sem.run_pure, Result.andThen_ok, List.map_toArray, List.map_cons, List.map_nil, hsv, hxv, hrun]
  exact h v' w' h2 h3
end
end Go.Proofs.YtbmemkbfignlaaaGreatDoor

namespace Go.Proofs.YtbmemkbfignlaaaGreatDoor
open Go.RowKit
attribute [local go_sem] Oper.semAt_some

/-! ## The document's Decode -/
theorem hexN_le (c : UInt8) : hexN c ≤ 16 := by
  unfold hexN
  (repeat' split) <;> omega
theorem ret_u64 {a b : Int} (h : a = b) : Ending.returned (.int .u64 a) = .returned (.int .u64 b) := by rw [h]
theorem refDigit_hex (c : UInt8) (w : World) : Calls Tryz.prog 80 #[.int .u8 (c.toNat : Int)] w fun e w' => e = .returned (.int .u64 (hexN c : Int)) ∧ w' = w := by
  have hl := c.toNat_lt
  have hw : 48 ≤ c.toNat ∧ c.toNat ≤ 57 ∨ 97 ≤ c.toNat ∧ c.toNat ≤ 102 ∨ 65 ≤ c.toNat ∧ c.toNat ≤ 70 ∨ c.toNat < 48 ∨ 57 < c.toNat ∧ c.toNat < 65 ∨ 70 < c.toNat ∧ c.toNat < 97 ∨ 102 < c.toNat := by omega
  unfold hexN
  generalize c.toNat = n at *
  rcases hw with h | h | h | h | h | h | h
  all_goals
    go_enter Tryz.func80, Tryz.ntmps80
    go_wp2
    go_ret
    refine ⟨ret_u64 ?_, rfl⟩
    (repeat' split) <;> omega
def decV (o : Option (List UInt8)) : Value := match o with
  | some l => .tuple #[.string ⟨l.toArray⟩, .int .i64 0]
  | none => .tuple #[.string ⟨#[]⟩, .int .i64 210]
def DecR (o : Option (List UInt8)) (w : World) (e : Ending) (w' : World) : Prop := e = .returned (decV o) ∧ Below w.heap.size w w'
/-- What is decoded behind what is. -/
def goD (plus : Bool) (done r : List UInt8) : Option (List UInt8) := (decL plus r).map (done ++ ·)
theorem goD_nil (plus : Bool) (done : List UInt8) : goD plus done [] = some done := by unfold goD decL; simp
theorem goD_pct (plus : Bool) (done : List UInt8) (a b : UInt8) (r : List UInt8) (ha : ¬ 15 < hexN a) (hb : ¬ 15 < hexN b) : goD plus done (37 :: a :: b :: r) = goD plus (done ++ [UInt8.ofNat (16 * hexN a + hexN b)]) r := by
  unfold goD
  rw [decL_pct, if_neg (by omega)]
  cases decL plus r <;> simp
theorem goD_bad (plus : Bool) (done : List UInt8) (a b : UInt8) (r : List UInt8) (h : 15 < hexN a ∨ 15 < hexN b) : goD plus done (37 :: a :: b :: r) = none := by
  unfold goD
  rw [decL_pct, if_pos h]; rfl
theorem goD_short (plus : Bool) (done : List UInt8) {r : List UInt8} (h : r.length < 2) : goD plus done (37 :: r) = none := by
  unfold goD
  rw [decL_short plus h]; rfl
theorem goD_other (plus : Bool) (done : List UInt8) {c : UInt8} (r : List UInt8) (h : c ≠ 37) : goD plus done (c :: r) = goD plus (done ++ [if plus = true ∧ c = 43 then 32 else c]) r := by
  unfold goD
  rw [decL_other plus r h]
  cases decL plus r <;> simp
theorem decL_goD (plus : Bool) (s : List UInt8) : decL plus s = goD plus [] s := by unfold goD; cases decL plus s <;> rfl
theorem byte_eq (s : List UInt8) {i : Nat} (h : i < s.length) (k : UInt8) (n : Int) (hk : (k.toNat : Int) = n) : ((((⟨s.toArray⟩ : ByteArray)[i]'h).toNat : Int) == n) = (s[i] == k) := by
  rw [byE s i h, ← hk, Bool.eq_iff_iff, beq_iff_eq, beq_iff_eq, ← UInt8.toNat_inj]
  omega
theorem new_byte (W : World) (m : Nat) (h : m < 256) : Rd (W.alloc (.cells #[.int .u8 (m : Int)] 5)) (· = W.heap.size) (some ⟨W.heap.size, 0, none⟩) [UInt8.ofNat m] := by
  have e : (byts [UInt8.ofNat m]).toArray = #[.int .u8 (m : Int)] := by
    have : (UInt8.ofNat m).toNat = m := by simp; omega
    show #[Value.int .u8 ((UInt8.ofNat m).toNat : Int)] = _
    rw [this]
  have hh := Has.new W 5 #[.int .u8 (m : Int)]
  rw [← e] at hh ⊢
  exact Has.rd hh
theorem Rd.drew {W : World} {S : Nat → Prop} {A : Option Addr} {l : List UInt8} (h : Rd W S A l) : Rd W.drew S A l := h
set_option maxRecDepth 100000 in
set_option maxHeartbeats 4000000 in
theorem refDecode_any (plus : Bool) (s : List UInt8) (w : World) (hs : s.length ≤ 1000000) : Calls Tryz.prog 59 #[.string ⟨s.toArray⟩, .bool plus] w (DecR (decL plus s) w) := by
  unfold DecR
  rw [decL_goD]
  go_enter Tryz.func59, Tryz.ntmps59
  go_wp2
  go_loopw [6, 7] (fun v x W => ∃ (done : List UInt8) (i : Nat), i ≤ s.length ∧ x = .int .i64 (i : Int) ∧ Bs W w.heap.size v done ∧ goD plus [] s = goD plus done (s.drop i) ∧ done.length ≤ i ∧ Below w.heap.size w W) (fun _ x _ => s.length - (intOf x).toNat)
  case atStart => exact ⟨[], 0, Nat.zero_le _, rfl, bs_nil _ _, by rw [List.drop_zero], Nat.le_refl _, Below.refl _ _⟩
  case round =>
    obtain ⟨done, i, hil, rfl, hbs, hgo, hdl, hb⟩ := hrel
    have hb' := Lib.hid hb
    have hz3 := hb.size
    obtain ⟨Av, cv, hv, hrdv⟩ := hbs.shape
    subst hv
    have hbs' := Lib.hid hbs
    have hcv := Lib.hid (hrdv.text (P := Tryz.prog) 86 9 5 cv Tryz.underlying86 Tryz.underlying5 Tryz.underlying9)
    clear hbs hb hrdv
    by_cases hlt : i < s.length
    · have hltI : (i : Int) < (s.length : Int) := by omega
      rw [drop_at s hlt] at hgo
      clear hcv
      by_cases h37 : s[i] = 37
      · have e37 : ((((⟨s.toArray⟩ : ByteArray)[i]'hlt).toNat : Int) == 37) = true := by rw [byte_eq s hlt 37 37 rfl, h37]; rfl
        rw [h37] at hgo
        by_cases hend : s.length ≤ i + 2
        · have hI : (s.length : Int) ≤ (i : Int) + 2 := by omega
          have hgo' := Lib.hid (hgo.trans (goD_short plus done (by simp; omega)))
          clear hgo
          go_wp2
          go_ret2
          exact ⟨by rw [hgo'.out]; rfl, hb'.out⟩
        · have hI : ¬ (s.length : Int) ≤ (i : Int) + 2 := by omega
          have h1 : i + 1 < s.length := by omega
          have h2 : i + 2 < s.length := by omega
          have h1I : (i : Int) + 1 < (s.length : Int) := by omega
          have h2I : (i : Int) + 2 < (s.length : Int) := by omega
          rw [drop_at s h1, drop_at s (show i + 1 + 1 < s.length from h2)] at hgo
          have hd1 := Lib.hid (fun W => show Calls Tryz.prog 80 #[.int .u8 (((⟨s.toArray⟩ : ByteArray)[i + 1]'h1).toNat : Int)] W fun e w' => e = .returned (.int .u64 (hexN s[i + 1] : Int)) ∧ w' = W from refDigit_hex s[i + 1] W)
          have hd2 := Lib.hid (fun W => show Calls Tryz.prog 80 #[.int .u8 (((⟨s.toArray⟩ : ByteArray)[i + 2]'h2).toNat : Int)] W fun e w' => e = .returned (.int .u64 (hexN s[i + 2] : Int)) ∧ w' = W from refDigit_hex s[i + 2] W)
          have hl1 := hexN_le s[i + 1]
          have hl2 := hexN_le s[i + 2]
          have hgo : goD plus [] s = goD plus done (37 :: s[i + 1] :: s[i + 2] :: s.drop (i + 3)) := hgo
          generalize s[i + 1] = c1 at *
          generalize s[i + 2] = c2 at *
          by_cases hx1 : 15 < hexN c1
          · have hgo' := Lib.hid (hgo.trans (goD_bad plus done c1 c2 _ (.inl hx1)))
            clear hgo
            have hx1I : (15 : Int) < (hexN c1 : Int) := by omega
            go_wp2_with (go_at_call 80; (with_reducible refine Calls.mono (hd1.out _) ?_); rintro e w7 ⟨rfl, hw7⟩; obtain rfl := hw7.symm)
            go_ret2
            exact ⟨by rw [hgo'.out]; rfl, hb'.out⟩
          · have hx1I : ¬ (15 : Int) < (hexN c1 : Int) := by omega
            by_cases hx2 : 15 < hexN c2
            · have hgo' := Lib.hid (hgo.trans (goD_bad plus done c1 c2 _ (.inr hx2)))
              clear hgo
              have hx2I : (15 : Int) < (hexN c2 : Int) := by omega
              go_wp2_with (first | (go_at_call 80; (with_reducible refine Calls.mono (hd1.out _) ?_); rintro e w7 ⟨rfl, hw7⟩; obtain rfl := hw7.symm) | (go_at_call 80; (with_reducible refine Calls.mono (hd2.out _) ?_); rintro e w7 ⟨rfl, hw7⟩; obtain rfl := hw7.symm))
              go_ret2
              exact ⟨by rw [hgo'.out]; rfl, hb'.out⟩
            · have hx2I : ¬ (15 : Int) < (hexN c2 : Int) := by omega
              have hgo' := Lib.hid (hgo.trans (goD_pct plus done c1 c2 _ hx1 hx2))
              clear hgo
              go_wp2_with (first | (go_at_call 80; (with_reducible refine Calls.mono (hd1.out _) ?_); rintro e w7 ⟨rfl, hw7⟩; obtain rfl := hw7.symm) | (go_at_call 80; (with_reducible refine Calls.mono (hd2.out _) ?_); rintro e w7 ⟨rfl, hw7⟩; obtain rfl := hw7.symm))
              obtain ⟨j1, hj1⟩ : ∃ j, j = i + 1 := ⟨_, rfl⟩
              obtain ⟨j2, hj2⟩ : ∃ j, j = i + 2 := ⟨_, rfl⟩
              obtain ⟨m1, hm1⟩ : ∃ m, m = 16 * hexN c1 := ⟨_, rfl⟩
              obtain ⟨m2, hm2⟩ : ∃ m, m = 16 * hexN c1 + hexN c2 := ⟨_, rfl⟩
              have k1 : j1 < s.length := by omega
              have k2 : j2 < s.length := by omega
              have k1I : (j1 : Int) < (s.length : Int) := by omega
              have k2I : (j2 : Int) < (s.length : Int) := by omega
              have w1 : IntKind.i64.wrap ((i : Int) + 1) = (j1 : Int) := by rw [IntKind.wrap_i64]; omega
              have w2 : IntKind.i64.wrap ((i : Int) + 2) = (j2 : Int) := by rw [IntKind.wrap_i64]; omega
              have w3 : IntKind.u64.wrap (16 * (hexN c1 : Int)) = (m1 : Int) := by rw [IntKind.wrap_u64]; omega
              have w4 : IntKind.u64.wrap ((m1 : Int) + (hexN c2 : Int)) = (m2 : Int) := by rw [IntKind.wrap_u64]; omega
              have w5 : IntKind.u8.wrap (m2 : Int) = (m2 : Int) := by rw [IntKind.wrap_u8]; omega
              have hd1' : Hid (∀ W, Calls Tryz.prog 80 #[.int .u8 (((⟨s.toArray⟩ : ByteArray)[j1]'k1).toNat : Int)] W fun e w' => e = .returned (.int .u64 (hexN c1 : Int)) ∧ w' = W) := Lib.hid (by subst hj1; exact hd1.out)
              have hd2' : Hid (∀ W, Calls Tryz.prog 80 #[.int .u8 (((⟨s.toArray⟩ : ByteArray)[j2]'k2).toNat : Int)] W fun e w' => e = .returned (.int .u64 (hexN c2 : Int)) ∧ w' = W) := Lib.hid (by subst hj2; exact hd2.out)
              have hal := (Below.refl wr.heap.size wr).alloc (Nat.le_refl _) (.cells #[.int .u8 (m2 : Int)] 5) |>.drew
              have hbs2 := Lib.hid (hbs'.out.below hal)
              have hb2 := Lib.hid (hb'.out.trans (hal.mono hz3))
              have hnew := Lib.hid (new_byte wr m2 (by omega)).drew
              have hgo2 := Lib.hid (show goD plus [] s = goD plus (done ++ [UInt8.ofNat m2]) (s.drop (i + 3)) by rw [hm2]; exact hgo'.out)
              have hz4 : w.heap.size ≤ (wr.alloc (.cells #[.int .u8 (m2 : Int)] 5)).drew.heap.size := by show _ ≤ (wr.alloc _).heap.size; simp; omega
              clear hd1 hd2 hj1 hj2 hm1 hm2 hal hgo'
              go_region_held3 (fun _ => True) (exact trivial)
                (first
                  | (go_at_call 80; (with_reducible refine Calls.mono (hd1'.out _) ?_); rintro e w7 ⟨rfl, hw7⟩; obtain rfl := hw7.symm)
                  | (go_at_call 80; (with_reducible refine Calls.mono (hd2'.out _) ?_); rintro e w7 ⟨rfl, hw7⟩; obtain rfl := hw7.symm)
                  | (refine step_append_rd rfl (.tmp 46) (.tmp 60) rfl rfl hbs2.out (· = wr.heap.size) (some ⟨wr.heap.size, 0, none⟩) [UInt8.ofNat m2] 1 1 rfl rfl hnew.out (by simp; omega) hz4 ?_
                     intro v8 w8 ho8 hg8
                     have ho8' := Lib.hid ho8
                     have hg8' : Hid (World.grownBy (wr.alloc (.cells #[.int .u8 (m2 : Int)] 5)).drew w8 (Value.slice Av done.length cv).ownBlock) := Lib.hid hg8
                     clear ho8 hg8))
              all_goals clear w1 w2 w3 w4 w5
              all_goals go_wp2
              all_goals exact ⟨⟨done ++ [UInt8.ofNat m2], i + 3, by omega, by go_num, ho8'.out, hgo2.out, by rw [List.length_append, List.length_singleton]; omega, hb2.out.grown hg8'.out hz4 (fun g e => (hbs2.out.own g e).1)⟩, by simp [intOf]; omega⟩
      · have e37 : ((((⟨s.toArray⟩ : ByteArray)[i]'hlt).toNat : Int) == 37) = false := by rw [byte_eq s hlt 37 37 rfl]; exact beq_eq_false_iff_ne.2 h37
        have hgo' := Lib.hid (hgo.trans (goD_other plus done _ h37))
        have hnew := Lib.hid (new_byte wr s[i].toNat (s[i].toNat_lt))
        rw [UInt8.ofNat_toNat] at hnew
        have hnew2 := Lib.hid (new_byte wr 32 (by omega))
        clear hgo h37
        by_cases hpl : plus = true ∧ s[i] = 43
        · obtain ⟨rfl, h43⟩ := hpl
          have e43 : ((((⟨s.toArray⟩ : ByteArray)[i]'hlt).toNat : Int) == 43) = true := by rw [byte_eq s hlt 43 43 rfl, h43]; rfl
          rw [if_pos ⟨rfl, h43⟩] at hgo'
          clear h43 hnew
          go_wp2_with (at_builtin; refine wpList_append_rd rfl _ _ rfl rfl (hbs'.out.below ((Below.refl wr.heap.size wr).alloc (Nat.le_refl _) (.cells #[.int .u8 32] 5))) (· = wr.heap.size) (some ⟨wr.heap.size, 0, none⟩) [32] 1 1 rfl rfl hnew2.out (by simp; omega) (by simp; omega) ?_; intro v8 w8 ho8 hg8; have ho8' := Lib.hid ho8; have hg8' := Lib.hid hg8; clear ho8 hg8)
          have al := (Below.refl wr.heap.size wr).alloc (Nat.le_refl _) (.cells #[.int .u8 32] 5)
          have hbsA := hbs'.out.below al
          have hB := (hb'.out.trans (al.mono hz3)).grown hg8'.out (by simp; omega) (fun g e => (hbsA.own g e).1)
          exact ⟨⟨done ++ [32], i + 1, by omega, by go_num, ho8'.out, hgo'.out, by rw [List.length_append, List.length_singleton]; omega, hB⟩, by simp [intOf]; omega⟩
        · rw [if_neg hpl] at hgo'
          clear hnew2
          cases plus with
          | true =>
            have e43 : ((((⟨s.toArray⟩ : ByteArray)[i]'hlt).toNat : Int) == 43) = false := by rw [byte_eq s hlt 43 43 rfl]; exact beq_eq_false_iff_ne.2 (fun h => hpl ⟨rfl, h⟩)
            clear hpl
            go_wp2_with (at_builtin; refine wpList_append_rd rfl _ _ rfl rfl (hbs'.out.below ((Below.refl wr.heap.size wr).alloc (Nat.le_refl _) (.cells #[.int .u8 (s[i].toNat : Int)] 5))) (· = wr.heap.size) (some ⟨wr.heap.size, 0, none⟩) [s[i]] 1 1 rfl rfl hnew.out (by simp; omega) (by simp; omega) ?_; intro v8 w8 ho8 hg8; have ho8' := Lib.hid ho8; have hg8' := Lib.hid hg8; clear ho8 hg8)
            have al := (Below.refl wr.heap.size wr).alloc (Nat.le_refl _) (.cells #[.int .u8 (s[i].toNat : Int)] 5)
            have hbsA := hbs'.out.below al
            have hB := (hb'.out.trans (al.mono hz3)).grown hg8'.out (by simp; omega) (fun g e => (hbsA.own g e).1)
            exact ⟨⟨done ++ [s[i]], i + 1, by omega, by go_num, ho8'.out, hgo'.out, by rw [List.length_append, List.length_singleton]; omega, hB⟩, by simp [intOf]; omega⟩
          | false =>
            clear hpl
            go_wp2_with (at_builtin; refine wpList_append_rd rfl _ _ rfl rfl (hbs'.out.below ((Below.refl wr.heap.size wr).alloc (Nat.le_refl _) (.cells #[.int .u8 (s[i].toNat : Int)] 5))) (· = wr.heap.size) (some ⟨wr.heap.size, 0, none⟩) [s[i]] 1 1 rfl rfl hnew.out (by simp; omega) (by simp; omega) ?_; intro v8 w8 ho8 hg8; have ho8' := Lib.hid ho8; have hg8' := Lib.hid hg8; clear ho8 hg8)
            have al := (Below.refl wr.heap.size wr).alloc (Nat.le_refl _) (.cells #[.int .u8 (s[i].toNat : Int)] 5)
            have hbsA := hbs'.out.below al
            have hB := (hb'.out.trans (al.mono hz3)).grown hg8'.out (by simp; omega) (fun g e => (hbsA.own g e).1)
            exact ⟨⟨done ++ [s[i]], i + 1, by omega, by go_num, ho8'.out, hgo'.out, by rw [List.length_append, List.length_singleton]; omega, hB⟩, by simp [intOf]; omega⟩
    · obtain rfl : i = s.length := by omega
      have hgo' := Lib.hid (show goD plus [] s = some done by rw [hgo, List.drop_of_length_le (Nat.le_refl _), goD_nil])
      have hcv' := hcv.out
      clear hgo hcv
      go_wp2
      go_ret2
      exact ⟨by rw [hgo'.out]; rfl, hb'.out⟩
end Go.Proofs.YtbmemkbfignlaaaGreatDoor

namespace Go.Proofs.YtbmemkbfignlaaaGreatDoor
open Go.RowKit
attribute [local go_sem] Oper.semAt_some

/-! ## The document's Encode -/
theorem ret_bool {a b : Bool} (h : a = b) : Ending.returned (.bool a) = .returned (.bool b) := by rw [h]
theorem encL_snoc (l : List UInt8) (c : UInt8) : encL (l ++ [c]) = encL l ++ encB c := by unfold encL; simp
theorem take_one (l : List UInt8) {i : Nat} (h : i < l.length) : (l.drop i).take (i + 1 - i) = [l[i]] := by
  rw [drop_at l h, Nat.add_sub_cancel_left]; rfl
theorem cat3 (l : List UInt8) (a b : UInt8) : (⟨l.toArray⟩ : ByteArray) ++ ⟨#[37]⟩ ++ ⟨#[a]⟩ ++ ⟨#[b]⟩ = ⟨l.toArray⟩ ++ ⟨[37, a, b].toArray⟩ := by
  have h1 := app_str l [37]
  have h2 := app_str (l ++ [37]) [a]
  have h3 := app_str (l ++ [37] ++ [a]) [b]
  have h4 := app_str l [37, a, b]
  refine (show _ = _ from ?_ : (⟨l.toArray⟩ : ByteArray) ++ ⟨[37].toArray⟩ ++ ⟨[a].toArray⟩ ++ ⟨[b].toArray⟩ = ⟨l.toArray⟩ ++ ⟨[37, a, b].toArray⟩)
  rw [h1, h2, h3, h4]
  simp
theorem encB_len (c : UInt8) : (encB c).length ≤ 3 := by unfold encB; split <;> simp
theorem encL_len : ∀ l : List UInt8, (encL l).length ≤ 3 * l.length
  | [] => Nat.le_refl _
  | c :: r => by
    have h1 := encL_len r
    have h2 := encB_len c
    show (encB c ++ encL r).length ≤ _
    rw [List.length_append, List.length_cons]
    omega
/-- One digit of great letters, cut out of all. -/
theorem hexT (d : Nat) (h : d < 16) : (⟨#[48, 49, 50, 51, 52, 53, 54, 55, 56, 57, 65, 66, 67, 68, 69, 70]⟩ : ByteArray).extract d (d + 1) = ⟨#[hexG d]⟩ := by
  have : ∀ d : Fin 16, (⟨#[48, 49, 50, 51, 52, 53, 54, 55, 56, 57, 65, 66, 67, 68, 69, 70]⟩ : ByteArray).extract d.1 (d.1 + 1) = ⟨#[hexG d.1]⟩ := by
    intro d
    have e := exE1 [48, 49, 50, 51, 52, 53, 54, 55, 56, 57, 65, 66, 67, 68, 69, 70] d.1 (d.1 + 1)
    refine e.trans ?_
    revert d
    decide
  exact this ⟨d, h⟩
end Go.Proofs.YtbmemkbfignlaaaGreatDoor
