import Derived.Test.YtabgpnieekcdhaaDoorV
import Derived.Maps.AppendAt
import Derived.Deep.AppendLies
namespace Go.Proofs.YtabgpnieekcdhaaDoor
open Go.RowKit

/-! ## append of bytes onto a row of the call's own -/

/-- The slice at g, l.length long, is the call's own row; its first cells are these bytes. -/
def Own (W : World) (t : TypeId) (g cap : Nat) (l : List UInt8) : Prop := W.ownsRow g t 1 (.slice (some ⟨g, 0, none⟩) l.length cap) l.length (byts l)
theorem Own.rd {W : World} {t : TypeId} {g cap : Nat} {l : List UInt8} (h : Own W t g cap l) : Rd W (· = g) (some ⟨g, 0, none⟩) l := fun _ =>
  ⟨_, rfl, rfl, fun j u hu => World.ownsRow.cells (g := g) h rfl j u hu⟩
theorem Own.lt {W : World} {t : TypeId} {g cap : Nat} {l : List UInt8} (h : Own W t g cap l) : g < W.heap.size ∧ l.length ≤ cap ∧ cap ≤ maxLen := by
  rcases h.2 with ⟨h1, _⟩ | ⟨g', cap', cur, hv, _, hg, hnc, hcm, _, _⟩
  · cases h1
  · injection hv with hv _ hc
    injection hv with hv
    injection hv with hv
    subst hv; subst hc
    exact ⟨(Array.getElem?_eq_some_iff.1 hg).1, hnc, hcm⟩
/-- A literal without an element. -/
theorem own_empty (w : World) (t : TypeId) : Own (w.alloc (.cells #[] t)) t w.heap.size 0 [] :=
  ⟨rfl, .inr ⟨w.heap.size, 0, #[], rfl, Nat.le_refl _, World.alloc_heap_new w _, Nat.le_refl _, by simp [maxLen], rfl, rfl⟩⟩
theorem own_kept {W W' : World} {t : TypeId} {g cap : Nat} {l : List UInt8} (h : Own W t g cap l) (k : W'.heap[g]? = W.heap[g]?) : Own W' t g cap l := by
  refine ⟨h.1, ?_⟩
  rcases h.2 with h | ⟨g', cap', cur, hv, hb, hg, r⟩
  · exact .inl h
  · have : g' = g := by injection hv with hv; injection hv with hv; injection hv with hv; exact hv.symm
    subst this
    exact .inr ⟨g', cap', cur, hv, hb, k.trans hg, r⟩

/-- Only block g, and what is new, has turned. -/
structure Grew (g : Nat) (w w' : World) : Prop where
  os : w'.os = w.os
  tape : w'.tape = w.tape
  output : w'.output = w.output
  size : w.heap.size ≤ w'.heap.size
  block : ∀ k, k < w.heap.size → k ≠ g → w'.heap[k]? = w.heap[k]?
theorem Grew.below {g B : Nat} {w w' : World} (h : Grew g w w') (hg : B ≤ g) (hB : B ≤ w.heap.size) : Below B w w' := ⟨h.os, h.tape, h.output, h.size, fun k hk => h.block k (by omega) (by omega)⟩

section
variable {P : Program} (w : World)
theorem run_append_bytes (T ty e : TypeId) (i : TypeInfo) (z : Value) (ht : P.underlying T = some (.slice e)) (hi : P.info? e = some i) (hz : i.zero = some z) (hsize : i.size = 1) (hby : i.bytes = 1) (hzs : z.cells.size = 1)
    (g cap : Nat) (l : List UInt8) (hown : Own w e g cap l) (S : Nat → Prop) (A : Option Addr) (x : List UInt8) (c : Nat) (hx : Rd w S A x) (hs : l.length + x.length ≤ 140737488355328) :
    ∃ g' cap' w', (Builtin.append_ #[T, T] ty #[.slice (some ⟨g, 0, none⟩) l.length cap, .slice A x.length c]).run P w = .ok (.slice (some ⟨g', 0, none⟩) (l ++ x).length cap') w' ∧ Own w' e g' cap' (l ++ x) ∧ Grew g w w' ∧ (g' = g ∨ w.heap.size ≤ g') := by
  have nothing : x = [] → (Builtin.append_ #[T, T] ty #[.slice (some ⟨g, 0, none⟩) l.length cap, .slice none 0 c]).run P w = .ok (.slice (some ⟨g, 0, none⟩) l.length cap) w := fun _ => by
    have hnc := hown.lt.2.1
    simp [Builtin.append_, run_underlying ht, sizeOf, typeInfo, hi, Builtin.lenOf, Builtin.firstCells, hnc, storeCells]
  have same : Grew g w w := ⟨rfl, rfl, rfl, Nat.le_refl _, fun _ _ _ => rfl⟩
  cases A with
  | none =>
    obtain rfl : x = [] := by
      rcases Nat.eq_zero_or_pos x.length with h0 | h0
      · exact List.eq_nil_of_length_eq_zero h0
      · obtain ⟨ad, h, _⟩ := hx h0
        cases h
    refine ⟨g, cap, w, ?_, by simpa using hown, same, .inl rfl⟩
    have := nothing rfl
    simpa using this
  | some ad =>
    have hcells : ∀ j u, (byts x)[j]? = some u → w.cell? (ad.add j) = some u := by
      intro j u hu
      obtain ⟨hj, _⟩ := byts_get hu
      obtain ⟨ad', h, _, hc⟩ := hx (by omega)
      injection h with h
      subst h
      exact hc j u hu
    obtain ⟨v', w', hrun, h2, h3, h4, h5⟩ := run_append_own_at (P := P) w g T ty e i z 1 1 ht hi hz hsize hby hzs (by omega) _ _ _ hown ad x.length c (byts x) (by simp [byts_length]) hcells (byts_one x) (by simp only [maxLen]; omega) (by omega) (Nat.le_of_lt hown.lt.1)
    have hlen : (l ++ x).length = l.length + x.length := List.length_append
    have hne : v' ≠ .slice none 0 0 := fun e => by
      have := (h4.1 e).1
      cases this
    rcases h2.2 with ⟨h, _⟩ | ⟨g', cap', cur, rfl, _, hg', hnc, hcm, hcs, htk⟩
    · exact absurd h hne
    · refine ⟨g', cap', w', by rw [hlen]; exact hrun, ⟨by rw [byts_length]; omega, .inr ⟨g', cap', cur, rfl, Nat.le_refl _, hg', by omega, hcm, hcs, ?_⟩⟩, ⟨h3.os, h3.tape, h3.output, h3.size, fun k hk hne => h3.block k hk (fun e => hne (by simpa [Value.ownBlock] using e))⟩, ?_⟩
      · rw [hlen, byts_append]; exact htk
      · rcases h5 with h | h
        · left
          simpa [Value.ownBlock] using h
        · right
          have : g' = w.heap.size := by simpa [Value.ownBlock] using h
          omega
variable {w} in
theorem step_append_bytes {ops : Array Oper} {o : Oper} {a : Act} {K : Act → World → Prop} {Q : Exit → Act → World → Prop} {E : Prop} (hgd : o.guard = none) (s x : Operand) (T : TypeId)
    (ho : o.op = .call { callee := .builtin .append, args := #[s, x], argTypes := #[T, T] })
    (e : TypeId) (i : TypeInfo) (z : Value) (ht : P.underlying T = some (.slice e)) (hi : P.info? e = some i) (hz : i.zero = some z) (hsize : i.size = 1) (hby : i.bytes = 1) (hzs : z.cells.size = 1)
    (g cap : Nat) (l : List UInt8) (hv : a.eval s = .slice (some ⟨g, 0, none⟩) l.length cap) (hown : Own w e g cap l) (S : Nat → Prop) (A : Option Addr) (y : List UInt8) (c : Nat) (hxv : a.eval x = .slice A y.length c) (hx : Rd w S A y) (hs : l.length + y.length ≤ 140737488355328)
    (h : ∀ g' cap' w', Own w' e g' cap' (l ++ y) → Grew g w w' → (g' = g ∨ w.heap.size ≤ g') → K (a.put o.dst (.slice (some ⟨g', 0, none⟩) (l ++ y).length cap')) w') :
    if Region.wanted o (yielded ops a.tmps) = true then Oper.wp P o a w K Q else E := by
  have hw : Region.wanted o (yielded ops a.tmps) = true := by simp [Region.wanted, hgd]
  rw [if_pos hw]
  obtain ⟨g', cap', w', hrun, h2, h3, h4⟩ := run_append_bytes (P := P) w T o.type e i z ht hi hz hsize hby hzs g cap l hown S A y c hx hs
  unfold Oper.wp execOp
  simp only [ho, resolve, invoke, builtin, Sem.run_bind, Sem.run_pure, Result.andThen_ok, List.map_toArray, List.map_cons, List.map_nil, hv, hxv, hrun]
  exact h g' cap' w' h2 h3 h4
end
end Go.Proofs.YtabgpnieekcdhaaDoor
