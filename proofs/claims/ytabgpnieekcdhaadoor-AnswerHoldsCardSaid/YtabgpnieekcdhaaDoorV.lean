import Derived.Test.YtabgpnieekcdhaaDoorL
import Derived.Laws.CopyOwn
import Derived.Laws.IdiomStrings
import Derived.Laws.BytesArg
namespace Go.Proofs.YtabgpnieekcdhaaDoor
open Go.RowKit

/-! ## Bytes in memory -/

/-- A byte as a value. -/
def byt (b : UInt8) : Value := .int .u8 (b.toNat : Int)
def byts (l : List UInt8) : List Value := l.map byt
theorem byts_length (l : List UInt8) : (byts l).length = l.length := by simp [byts]
theorem byts_append (a b : List UInt8) : byts (a ++ b) = byts a ++ byts b := by simp [byts]
theorem byts_take (l : List UInt8) (k : Nat) : byts (l.take k) = (byts l).take k := by simp [byts]
theorem byts_drop (l : List UInt8) (k : Nat) : byts (l.drop k) = (byts l).drop k := by simp [byts]
theorem byts_one (l : List UInt8) : ∀ v ∈ byts l, v.oneCell' = true := by
  intro v hv
  obtain ⟨b, _, rfl⟩ := List.mem_map.1 hv
  rfl
theorem byts_get {l : List UInt8} {j : Nat} {u : Value} (h : (byts l)[j]? = some u) : ∃ hj : j < l.length, u = byt l[j] := by
  have hj : j < l.length := by have := (List.getElem?_eq_some_iff.1 h).1; simpa [byts] using this
  refine ⟨hj, ?_⟩
  simp [byts, List.getElem?_eq_getElem hj] at h
  exact h.symm
theorem byts_at {l : List UInt8} {j : Nat} (hj : j < l.length) : (byts l)[j]? = some (byt l[j]) := by simp [byts, List.getElem?_eq_getElem hj]
theorem byt_inj {a b : UInt8} (h : byt a = byt b) : a = b := by
  unfold byt at h
  injection h with _ h
  exact UInt8.toNat_inj.1 (by omega)
theorem byts_splice (cs : List UInt8) (off : Nat) (x : List UInt8) : splice (byts cs) off (byts x) = byts (splice cs off x) := by simp [splice, byts]

theorem add_add_ (a : Addr) (i j : Nat) : (a.add i).add j = a.add (i + j) := by
  unfold Addr.add
  by_cases hi : i = 0 <;> by_cases hj : j = 0 <;> simp [hi, hj, Nat.add_assoc]
theorem add_block_ (a : Addr) (n : Nat) : (a.add n).block = a.block := by unfold Addr.add; split <;> rfl
theorem add_zero_ (b o k : Nat) : (⟨b, o, none⟩ : Addr).add k = ⟨b, o + k, none⟩ := by unfold Addr.add; split <;> simp_all

/-- From the address A on these bytes stand, in a block of which S holds (no byte: anywhere). -/
def Rd (W : World) (S : Nat → Prop) (A : Option Addr) (l : List UInt8) : Prop :=
  0 < l.length → ∃ ad, A = some ad ∧ S ad.block ∧ ∀ j u, (byts l)[j]? = some u → W.cell? (ad.add j) = some u
section
variable {W W' : World} {S : Nat → Prop} {A : Option Addr} {l : List UInt8}
theorem Rd.nil (W : World) (S : Nat → Prop) (A : Option Addr) : Rd W S A [] := fun h => absurd h (by simp)
theorem Rd.kept (h : Rd W S A l) (k : Kept S W W') : Rd W' S A l := fun hl => by
  obtain ⟨ad, rfl, hS, hc⟩ := h hl
  exact ⟨ad, rfl, hS, fun j u hu => (World.cell?_of_block (k _ (by rw [add_block_]; exact hS))).trans (hc j u hu)⟩
theorem Rd.mono (h : Rd W S A l) {S' : Nat → Prop} (k : ∀ b, S b → S' b) : Rd W S' A l := fun hl => by
  obtain ⟨ad, e, hS, hc⟩ := h hl
  exact ⟨ad, e, k _ hS, hc⟩
theorem Rd.take (h : Rd W S A l) (k : Nat) : Rd W S A (l.take k) := fun hl => by
  obtain ⟨ad, e, hS, hc⟩ := h (by rw [List.length_take] at hl; omega)
  refine ⟨ad, e, hS, fun j u hu => hc j u ?_⟩
  rw [byts_take, List.getElem?_take] at hu
  split at hu
  · exact hu
  · cases hu
theorem Rd.drop (h : Rd W S A l) (k m : Nat) (hm : l.length ≤ m) : Rd W S (if m = k then A else A.map (·.add k)) (l.drop k) := fun hl => by
  rw [List.length_drop] at hl
  obtain ⟨ad, rfl, hS, hc⟩ := h (by omega)
  rw [if_neg (by omega)]
  refine ⟨ad.add k, rfl, by rw [add_block_]; exact hS, fun j u hu => ?_⟩
  rw [add_add_]
  refine hc _ u ?_
  rw [byts_drop, List.getElem?_drop] at hu
  exact hu
/-- 'string(b)'. -/
theorem Rd.text {P : Program} (h : Rd W S A l) (src dst e : TypeId) (c : Nat) (hs : P.underlying src = some (.slice e)) (he : P.underlying e = some (.int .u8)) (hd : P.underlying dst = some .string) :
    (convert src dst (.slice A l.length c)).run P W = .ok (.string ⟨l.toArray⟩) W := by
  rcases Nat.eq_zero_or_pos l.length with h0 | h0
  · obtain rfl : l = [] := List.eq_nil_of_length_eq_zero h0
    cases A with
    | none => exact run_convert_bytes_nil W src e hs he _ c dst hd
    | some ad => exact run_convert_bytes_back W src dst e ad c [] hs he hd (fun j hj => absurd hj (by simp))
  · obtain ⟨ad, rfl, _, hc⟩ := h h0
    exact run_convert_bytes_back W src dst e ad c l hs he hd (fun j hj => hc j _ (byts_at hj))
end

/-- A slice's own row: n cells at the head of block r (no cell: anywhere). -/
def Row (W : World) (r : Nat) (t : TypeId) (A : Option Addr) (cs : List UInt8) : Prop := 0 < cs.length → A = some ⟨r, 0, none⟩ ∧ Has W r t (byts cs).toArray
theorem Row.rd {W : World} {r : Nat} {t : TypeId} {A : Option Addr} {cs : List UInt8} (h : Row W r t A cs) : Rd W (· = r) A cs := fun hl => by
  obtain ⟨rfl, hh⟩ := h hl
  refine ⟨_, rfl, rfl, fun j u hu => ?_⟩
  rw [add_zero_, hh.cell]
  simpa using hu
theorem Has.rd {W : World} {r : Nat} {t : TypeId} {cs : List UInt8} (h : Has W r t (byts cs).toArray) : Rd W (· = r) (some ⟨r, 0, none⟩) cs := Row.rd (t := t) fun _ => ⟨rfl, h⟩
theorem Row.kept {W W' : World} {r : Nat} {t : TypeId} {A : Option Addr} {cs : List UInt8} (h : Row W r t A cs) (k : W'.heap[r]? = W.heap[r]?) : Row W' r t A cs := fun hl => by
  obtain ⟨rfl, hh⟩ := h hl
  exact ⟨rfl, k.trans hh⟩
theorem Row.lt {W : World} {r : Nat} {t : TypeId} {A : Option Addr} {cs : List UInt8} (h : Row W r t A cs) (h0 : 0 < cs.length) : r < W.heap.size := (h h0).2.lt
theorem row_new (W : World) (t : TypeId) (cs : List UInt8) : Row (W.alloc (.cells (byts cs).toArray t)) W.heap.size t (some ⟨W.heap.size, 0, none⟩) cs := fun _ => ⟨rfl, Has.new _ _ _⟩

theorem splice_get {α : Type} (cs : List α) (off : Nat) (x : List α) (h : off + x.length ≤ cs.length) (j : Nat) :
    (splice cs off x)[j]? = if off ≤ j ∧ j < off + x.length then x[j - off]? else cs[j]? := by
  unfold splice
  rw [List.getElem?_append, List.length_take, Nat.min_eq_left (by omega)]
  split
  · rw [if_neg (by omega), List.getElem?_take, if_pos (by omega)]
  · rw [List.getElem?_append]
    split
    · rw [if_pos (by omega)]
    · rw [if_neg (by omega), List.getElem?_drop]
      congr 1; omega

/-- But for block g the world is as it was. -/
structure Only (g : Nat) (w w' : World) : Prop where
  os : w'.os = w.os
  tape : w'.tape = w.tape
  output : w'.output = w.output
  size : w'.heap.size = w.heap.size
  block : ∀ k, k ≠ g → w'.heap[k]? = w.heap[k]?
theorem Only.refl (g : Nat) (w : World) : Only g w w := ⟨rfl, rfl, rfl, rfl, fun _ _ => rfl⟩
theorem Only.below {g B : Nat} {w w' : World} (h : Only g w w') (hB : B ≤ g) : Below B w w' := ⟨h.os, h.tape, h.output, by rw [h.size]; exact Nat.le_refl _, fun k hk => h.block k (by omega)⟩
theorem Only.has {g k : Nat} {w w' : World} {t : TypeId} {cs : Array Value} (h : Only g w w') (hh : Has w k t cs) (hk : k ≠ g) : Has w' k t cs := (h.block k hk).trans hh
theorem only_setRow (g : Nat) (w : World) (cs : Array Value) : Only g w (w.setRow g cs) := ⟨rfl, rfl, rfl, by simp [World.setRow], fun k hk => setRow_other w g k cs hk⟩
theorem only_setCell (g i : Nat) (w : World) (u : Value) : Only g w (w.setCell ⟨g, i, none⟩ u) := ⟨rfl, rfl, rfl, by simp [World.setCell], fun k hk => Below.heap_setCell w ⟨g, i, none⟩ u k hk⟩
theorem Only.trans {g : Nat} {a b c : World} (h : Only g a b) (k : Only g b c) : Only g a c := ⟨k.os.trans h.os, k.tape.trans h.tape, k.output.trans h.output, k.size.trans h.size, fun i hi => (k.block i hi).trans (h.block i hi)⟩

/-- 'copy(d, s)' of bytes: into a row known whole, out of a slice that reads as bytes. -/
theorem wpList_copy_bytes {P : Program} {w : World} {ops : Array Oper} {rest : List Oper} {o : Oper} {a : Act} {Q : Exit → Act → World → Prop} (hgd : o.guard = none) (d s : Operand) (dT sT : TypeId)
    (ho : o.op = .call { callee := .builtin .copy, args := #[d, s], argTypes := #[dT, sT] }) (elem : TypeId) (hu : P.underlying dT = some (.slice elem)) (hsz : (P.info? elem).map (·.size) = some 1)
    (A B : Option Addr) (dLen dCap sLen sCap : Nat) (hd : a.eval d = .slice A dLen dCap) (hs : a.eval s = .slice B sLen sCap)
    (g off : Nat) (cur : List UInt8) (t : TypeId) (hg : Has w g t (byts cur).toArray) (x : List UInt8) (hn : x.length = Nat.min sLen dLen) (hA : 0 < x.length → A = some ⟨g, off, none⟩) (S : Nat → Prop) (hx : Rd w S B x)
    (hfit : off + x.length ≤ cur.length)
    (h : ∀ w', Has w' g t (byts (splice cur off x)).toArray → Only g w w' → wpList P ops Q rest (a.put o.dst (.int .i64 (x.length : Int))) w') : wpList P ops Q (o :: rest) a w := by
  rcases Nat.eq_zero_or_pos x.length with h0 | h0
  · obtain rfl : x = [] := List.eq_nil_of_length_eq_zero h0
    refine wpList_copy_nothing hgd d s dT sT ho elem hu hsz A B dLen dCap sLen sCap hd hs (by simpa using hn.symm) ?_
    exact h w (by simpa [splice] using hg) (Only.refl _ _)
  · obtain rfl := hA h0
    obtain ⟨ad, rfl, _, hc⟩ := hx h0
    refine wpList_copy_own hgd d s dT sT ho elem hu hsz g off dLen dCap ad sLen sCap hd hs (byts cur).toArray t hg (byts x) (by rw [byts_length]; exact hn) hc (by simpa [byts_length] using hfit) (byts_one x) ?_
    rw [byts_length]
    refine h _ ?_ (only_setRow _ _ _)
    rw [← byts_splice]
    have := setRow_heap w g (byts cur).toArray ((byts cur).toArray.toList.take off ++ (byts x ++ (byts cur).toArray.toList.drop (off + x.length))).toArray t _ hg
    unfold Has
    simpa [splice, byts_length] using this
/-- The same as an equation of the run: where the walk stands at the copy. -/
theorem run_copy_bytes {P : Program} {w : World} (dT sT ty : TypeId) (elem : TypeId) (hu : P.underlying dT = some (.slice elem)) (hsz : (P.info? elem).map (·.size) = some 1)
    (A B : Option Addr) (dLen dCap sLen sCap : Nat) (g off : Nat) (cur : List UInt8) (t : TypeId) (hg : Has w g t (byts cur).toArray) (x : List UInt8) (hn : x.length = Nat.min sLen dLen) (hA : 0 < x.length → A = some ⟨g, off, none⟩) (S : Nat → Prop) (hx : Rd w S B x)
    (hfit : off + x.length ≤ cur.length) :
    ∃ w', (Builtin.copy_ #[dT, sT] ty #[.slice A dLen dCap, .slice B sLen sCap]).run P w = .ok (.int .i64 (x.length : Int)) w' ∧ Has w' g t (byts (splice cur off x)).toArray ∧ Only g w w' := by
  rcases Nat.eq_zero_or_pos x.length with h0 | h0
  · obtain rfl : x = [] := List.eq_nil_of_length_eq_zero h0
    exact ⟨w, run_copy_none (P := P) w dT sT ty elem A B dLen dCap sLen sCap hu hsz (by simpa using hn.symm), by simpa [splice] using hg, Only.refl _ _⟩
  · obtain rfl := hA h0
    obtain ⟨ad, rfl, _, hc⟩ := hx h0
    have hrun := run_copy_row (P := P) w dT sT ty elem g off dLen dCap ad sLen sCap (byts cur).toArray t (byts x) hu hsz hg (by rw [byts_length]; exact hn) hc (by simpa [byts_length] using hfit) (byts_one x)
    rw [byts_length] at hrun
    refine ⟨_, hrun, ?_, only_setRow _ _ _⟩
    rw [← byts_splice]
    have := setRow_heap w g (byts cur).toArray ((byts cur).toArray.toList.take off ++ byts x ++ (byts cur).toArray.toList.drop (off + x.length)).toArray t _ hg
    unfold Has
    simpa [splice, byts_length] using this
end Go.Proofs.YtabgpnieekcdhaaDoor
