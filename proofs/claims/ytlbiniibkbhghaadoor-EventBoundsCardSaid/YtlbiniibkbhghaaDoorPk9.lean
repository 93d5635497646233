import Derived.Test.YtlbiniibkbhghaaDoorPk8
import Derived.Test.YtlbiniibkbhghaaDoorPk7
import Derived.Maps.AppendAt
import Derived.Test.YtlbiniibkbhghaaDoorPk6
namespace Go.Proofs.YtlbiniibkbhghaaDoor
open Go.RowKit Go.Shelf Go.Lib
attribute [local go_sem] Oper.semAt_some

/-! ## What lines say of a text -/
def aloneL (t : List UInt8) : List (List UInt8) := if t = [] then [] else [t]
theorem oneF_alone (k : Int) (n t : List UInt8) : oneF k n t = (aloneL t).map fun p => (k, n, p) := by
  unfold oneF aloneL
  split <;> rfl
/-- Texts in a row, as a call tells them. -/
def ValsR (ls : List (List UInt8)) (w : World) (e : Ending) (w' : World) : Prop :=
  ∃ (A : Option Addr) (g c : Nat) (cs : Array Value), e = .returned (.slice A ls.length c) ∧ (0 < ls.length → A = some ⟨g, 0, none⟩ ∧ Has w' g 9 cs) ∧ (∀ (j : Nat) (y : List UInt8), ls[j]? = some y → cs[j]? = some (Value.string ⟨y.toArray⟩)) ∧ Below w.heap.size w w'
theorem alone_any (t : List UInt8) (w : World) : Calls Tryd.prog 166 #[.string ⟨t.toArray⟩] w (ValsR (aloneL t) w) := by
  by_cases ht : t = []
  · subst ht
    go_enter Tryd.func166, Tryd.ntmps166
    go_wp2
    go_ret
    exact ⟨none, 0, 0, #[], rfl, fun h => by simp [aloneL] at h, fun j y h => by simp [aloneL] at h, Below.refl _ _⟩
  · have hte : t.isEmpty = false := by cases t with
      | nil => exact absurd rfl ht
      | cons b r => rfl
    have ha : aloneL t = [t] := by unfold aloneL; rw [if_neg ht]
    rw [ha]
    go_enter Tryd.func166, Tryd.ntmps166
    go_wp2
    go_ret
    refine ⟨_, w.heap.size, 1, #[.string ⟨t.toArray⟩], rfl, fun _ => ⟨rfl, Has.new _ _ _⟩, fun j y h => ?_, (Below.refl _ _).alloc (Nat.le_refl _) _⟩
    match j, h with
    | 0, h => obtain rfl : t = y := by simpa using h
              rfl
    | j + 1, h => simp at h
theorem parts_any (t : List UInt8) (w : World) (hl : t.length ≤ 4294967000) (hM : MaxT w) : Calls Tryd.prog 169 #[.string ⟨t.toArray⟩] w (ValsR (partsL t) w) := by
  obtain ⟨m, hm⟩ := hM
  have hsp := Tryd.strings_Split ⟨t.toArray⟩ ⟨#[10]⟩ m w (by show t.toArray.size < _; simp; omega) (hm.cell 0) (by decide)
  obtain ⟨h1, h2⟩ := parts_split t.length t (Nat.le_refl _)
  have hd := splitB_data ⟨#[10]⟩ 0 (countB ⟨t.toArray⟩ ⟨#[10]⟩) ⟨t.toArray⟩
  have hc : countB ⟨t.toArray⟩ ⟨#[10]⟩ = count t [10] := rfl
  rw [hc] at hd hsp
  have hd : (splitB ⟨#[10]⟩ 0 (count t [10]) ⟨t.toArray⟩).map (·.data.toList) = partsL t := hd.trans h1
  rw [h2] at hsp
  generalize splitB ⟨#[10]⟩ 0 (count t [10]) ⟨t.toArray⟩ = bs at hd hsp
  have hsp' := Lib.hid hsp
  clear hsp hm h1 h2 hc
  go_enter Tryd.func169, Tryd.ntmps169
  go_wp2_with (go_at_call 177; (with_reducible refine Calls.mono hsp'.out ?_); rintro e w1 ⟨rfl, rfl⟩)
  go_ret
  refine ⟨_, w.heap.size, _, _, rfl, fun _ => ⟨rfl, Has.new _ _ _⟩, fun j y h => ?_, (Below.refl _ _).alloc (Nat.le_refl _) _⟩
  rw [← hd] at h
  rw [List.getElem?_map] at h
  cases hb : bs[j]? with
  | none => rw [hb] at h; cases h
  | some b =>
    rw [hb] at h
    obtain rfl : b.data.toList = y := by simpa using h
    rw [List.getElem?_toArray, List.getElem?_map, hb]
    rfl
/-! ## Fields in memory: a list of them -/
def fldC (f : FdT) : List Value := [.int .i64 f.1, .string ⟨f.2.1.toArray⟩, .string ⟨f.2.2.toArray⟩]
def fldsC (l : List FdT) : List Value := l.flatMap fldC
theorem fldsC_append (l m : List FdT) : fldsC (l ++ m) = fldsC l ++ fldsC m := by simp [fldsC]
theorem fldsC_get : ∀ (l : List FdT) (i : Nat) (x : FdT), l[i]? = some x → (fldsC l)[i * 3]? = some (.int .i64 x.1) ∧ (fldsC l)[i * 3 + 1]? = some (.string ⟨x.2.1.toArray⟩) ∧ (fldsC l)[i * 3 + 2]? = some (.string ⟨x.2.2.toArray⟩)
  | [], i, x, h => by simp at h
  | y :: l, 0, x, h => by
    obtain rfl : y = x := by simpa using h
    exact ⟨rfl, rfl, rfl⟩
  | y :: l, i + 1, x, h => by
    have := fldsC_get l i x (by simpa using h)
    have e : ∀ n, (fldsC (y :: l))[n + 1 + 1 + 1]? = (fldsC l)[n]? := fun n => rfl
    rw [show (i + 1) * 3 = i * 3 + 1 + 1 + 1 by omega, show i * 3 + 1 + 1 + 1 + 1 = (i * 3 + 1) + 1 + 1 + 1 by omega, show i * 3 + 1 + 1 + 1 + 2 = (i * 3 + 2) + 1 + 1 + 1 by omega, e, e, e]
    exact this
theorem fldsC_one (l : List FdT) : ∀ u ∈ fldsC l, u.oneCell' = true := by
  intro u hu
  obtain ⟨x, _, hu⟩ := List.mem_flatMap.1 hu
  simp only [fldC, List.mem_cons, List.not_mem_nil, or_false] at hu
  rcases hu with rfl | rfl | rfl <;> rfl
def Flds (W : World) (n0 : Nat) (v : Value) (l : List FdT) : Prop := W.ownsRow n0 40 3 v l.length (fldsC l)
theorem flds_nil (W : World) (n0 : Nat) : Flds W n0 (.slice none 0 0) [] := ⟨rfl, .inl ⟨rfl, rfl⟩⟩
theorem add_zeroF (g i : Nat) : (⟨g, 0, none⟩ : Addr).add i = ⟨g, i, none⟩ := by unfold Addr.add; split <;> simp_all
/-- Where such a list lies: block g, whose cells are cur (of none: nowhere). -/
def FldsIn (W : World) (n0 : Nat) (A : Option Addr) (g : Nat) (cur : Array Value) (l : List FdT) : Prop :=
  (0 < l.length → A = some ⟨g, 0, none⟩ ∧ n0 ≤ g ∧ Has W g 40 cur) ∧ ∀ i x, l[i]? = some x → cur[i * 3]? = some (.int .i64 x.1) ∧ cur[i * 3 + 1]? = some (.string ⟨x.2.1.toArray⟩) ∧ cur[i * 3 + 2]? = some (.string ⟨x.2.2.toArray⟩)
section
variable {W W' : World} {n0 : Nat} {v : Value} {l : List FdT}
theorem Flds.shape (h : Flds W n0 v l) : ∃ A g c cur, v = .slice A l.length c ∧ FldsIn W n0 A g cur l := by
  have hh := h
  rcases h.2 with ⟨rfl, h0⟩ | ⟨g, cap, cur, rfl, hb, hg, _⟩
  · exact ⟨none, 0, 0, #[], by rw [h0], fun hl => by omega, fun i x hx => by have := (List.getElem?_eq_some_iff.1 hx).1; omega⟩
  · refine ⟨_, g, cap, cur, rfl, fun _ => ⟨rfl, hb, hg⟩, fun i x hx => ?_⟩
    have c := fun j u hu => World.ownsRow.cells (g := g) hh rfl j u hu
    simp only [add_zeroF] at c
    have k := fun j u (hu : (fldsC l)[j]? = some u) => by have := c j u hu; rw [Has.cell (show Has W g 40 cur from hg)] at this; exact this
    obtain ⟨a, b, d⟩ := fldsC_get l i x hx
    exact ⟨k _ _ a, k _ _ b, k _ _ d⟩
theorem Flds.own (h : Flds W n0 v l) : ∀ g, v.ownBlock = some g → n0 ≤ g ∧ ∃ cs, Has W g 40 cs := by
  intro g hg
  rcases h.2 with ⟨rfl, _⟩ | ⟨g', cap, cur, rfl, hb, hh, r⟩
  · cases hg
  · obtain rfl : g' = g := by simpa [Value.ownBlock] using hg
    exact ⟨hb, cur, hh⟩
theorem Flds.below (h : Flds W n0 v l) (hb : Below W.heap.size W W') : Flds W' n0 v l := by
  refine ⟨h.1, ?_⟩
  rcases h.2 with h | ⟨g, cap, cur, rfl, hb', hg, r⟩
  · exact .inl h
  · exact .inr ⟨g, cap, cur, rfl, hb', (hb.block g (Array.getElem?_eq_some_iff.1 hg).1).trans hg, r⟩
end
theorem infoFld : (Tryd.prog.info? 40).map (fun i => (i.zero, i.size, i.bytes)) = some (some (.agg #[.int .i64 0, .string ⟨#[]⟩, .string ⟨#[]⟩]), 3, 40) := by kernel_rfl
theorem info_fld : ∃ i, Tryd.prog.info? 40 = some i ∧ i.zero = some (.agg #[.int .i64 0, .string ⟨#[]⟩, .string ⟨#[]⟩]) ∧ i.size = 3 ∧ i.bytes = 40 := by
  have h := infoFld
  cases hi : Tryd.prog.info? 40 with
  | none => rw [hi] at h; cases h
  | some i =>
    rw [hi] at h
    simp at h
    exact ⟨i, rfl, h⟩
theorem step_append_fld {ops : Array Oper} {o : Oper} {a : Act} {K : Act → World → Prop} {Q : Exit → Act → World → Prop} {X : Prop} {w : World} {n0 : Nat} {v : Value} {l : List FdT} (hgd : o.guard = none) (s x : Operand)
    (ho : o.op = .call { callee := .builtin .append, args := #[s, x], argTypes := #[205, 205] }) (hsv : a.eval s = v) (hv : Flds w n0 v l)
    (k : Nat) (f : FdT) (hxv : a.eval x = .slice (some ⟨k, 0, none⟩) 1 1) (hx : Has w k 40 (fldC f).toArray) (hs : l.length + 1 ≤ 1099511627776) (hn : n0 ≤ w.heap.size)
    (h : ∀ v' w', Flds w' n0 v' (l ++ [f]) → w.grownBy w' v.ownBlock → K (a.put o.dst v') w') : if Region.wanted o (yielded ops a.tmps) = true then Oper.wp Tryd.prog o a w K Q else X := by
  have hw : Region.wanted o (yielded ops a.tmps) = true := by simp [Region.wanted, hgd]
  rw [if_pos hw]
  obtain ⟨i, hi, hz, hz1, hz2⟩ := info_fld
  obtain ⟨v', w', hrun, h2, h3, _⟩ := run_append_own (P := Tryd.prog) (w := w) n0 205 o.type 40 i _ 3 40 Tryd.underlying205 hi hz hz1 hz2 rfl (by decide) v l.length (fldsC l) hv ⟨k, 0, none⟩ 1 1 (fldC f) rfl
    (fun j u hu => by rw [add_zeroF, hx.cell]; simpa using hu) (by have := fldsC_one [f]; simpa [fldsC] using this) (by simp only [maxLen]; omega) (by omega) hn
  unfold Oper.wp execOp
  simp only [ho, resolve, invoke, builtin, Sem.run_bind, Sem.run_pure, Result.andThen_ok, List.map_toArray, List.map_cons, List.map_nil, hsv, hxv, hrun]
  refine h v' w' ?_ h3
  unfold Flds
  rw [List.length_append, List.length_singleton, fldsC_append]
  simpa [fldsC] using h2
end Go.Proofs.YtlbiniibkbhghaaDoor

namespace Go.Proofs.YtlbiniibkbhghaaDoor
open Go.RowKit Go.Shelf
attribute [local go_sem] Oper.semAt_some

/-! ## (*frame).fields -/
def grE (e : Ev) : Nat → List FdT
  | 0 => []
  | 1 => (aloneL e.1).map fun p => ((5 : Int), idN, p)
  | 2 => ((aloneL e.1).map fun p => ((5 : Int), idN, p)) ++ (aloneL e.2.1).map fun p => ((4 : Int), eventN, p)
  | _ => (((aloneL e.1).map fun p => ((5 : Int), idN, p)) ++ (aloneL e.2.1).map fun p => ((4 : Int), eventN, p)) ++ (partsL e.2.2).map fun p => ((3 : Int), dataN, p)
theorem grE_all (e : Ev) : grE e 3 = fieldsE e := by
  unfold grE fieldsE dataF
  rw [oneF_alone, oneF_alone, List.append_assoc]
  rfl
theorem aloneL_len (t : List UInt8) : (aloneL t).length ≤ 1 := by unfold aloneL; split <;> simp
theorem aloneL_mem {t y : List UInt8} (h : y ∈ aloneL t) : y.length ≤ t.length := by
  unfold aloneL at h
  split at h
  · simp at h
  · rw [List.mem_singleton.1 h]; exact Nat.le_refl _
structure FoS (w : World) (e : Ev) (b : Value) (k g j : Nat) (v : Value) (wr : World) : Prop where
  fr : Has wr k 175 (frCells e b)
  sy : Has wr g 182 sayCells
  fl : Flds wr w.heap.size v (grE e j)
  be : Below w.heap.size w wr
theorem FoS.below {w : World} {e : Ev} {b : Value} {k g j : Nat} {v : Value} {wr W : World} (h : FoS w e b k g j v wr) (hb : Below wr.heap.size wr W) : FoS w e b k g j v W :=
  ⟨h.fr.below hb h.fr.lt, h.sy.below hb h.sy.lt, h.fl.below hb, h.be.trans (hb.mono h.be.size)⟩
structure FiS (w : World) (e : Ev) (b : Value) (k g : Nat) (l0 : List FdT) (K : Int) (N : List UInt8) (vl : List (List UInt8)) (s gv : Nat) (sc cs : Array Value) (i : Nat) (v : Value) (wr : World) : Prop where
  s : Has wr s 182 sc
  vs : 0 < vl.length → Has wr gv 9 cs
  fr : Has wr k 175 (frCells e b)
  sy : Has wr g 182 sayCells
  fl : Flds wr w.heap.size v (l0 ++ (vl.take i).map fun p => (K, N, p))
  be : Below w.heap.size w wr
theorem grown_keeps {X Y : World} {v : Value} {l : List FdT} {n0 k : Nat} {t : TypeId} {cs : Array Value} (h : Has X k t cs) (hf : Flds X n0 v l) (hg : X.grownBy Y v.ownBlock) (ht : t ≠ 40) : Has Y k t cs :=
  (hg.block k h.lt (fun e => by
    obtain ⟨h1, cs', h2⟩ := hf.own k e.symm
    have h3 : X.heap[k]? = some (.cells cs t (0, 0)) := h
    have h4 : X.heap[k]? = some (.cells cs' 40 (0, 0)) := h2
    rw [h3] at h4
    injection h4 with h4
    injection h4 with _ h4
    exact ht h4)).trans h
theorem take_map_snoc {K : Int} {N : List UInt8} {vl : List (List UInt8)} {i : Nat} {y : List UInt8} (l0 : List FdT) (h : vl[i]? = some y) : (l0 ++ (vl.take i).map fun p => (K, N, p)) ++ [(K, N, y)] = l0 ++ (vl.take (i + 1)).map fun p => (K, N, p) := by
  obtain ⟨hi, rfl⟩ := List.getElem?_eq_some_iff.1 h
  rw [List.take_succ_eq_append_getElem hi, List.map_append, List.append_assoc]
  rfl
def FieldsR (e : Ev) (w : World) (r : Ending) (w' : World) : Prop := ∃ v, r = .returned v ∧ Flds w' w.heap.size v (fieldsE e) ∧ Below w.heap.size w w'
set_option maxRecDepth 100000 in
set_option maxHeartbeats 8000000 in
theorem fields_any (e : Ev) (b : Value) (k : Nat) (w : World) (hk : Has w k 175 (frCells e b)) (hl : e.1.length + e.2.1.length + e.2.2.length ≤ 65536) (hN : NamesT w) (hM : MaxT w) :
    Calls Tryd.prog 157 #[.pointer (some ⟨k, 0, none⟩)] w (FieldsR e w) := by
  have hN' := Lib.hid hN
  have hM' := Lib.hid hM
  have hklt := hk.lt
  have hb4 := Lib.hid (show Below w.heap.size w (w.alloc (.cells sayCells 182)) from (Below.refl _ _).alloc (Nat.le_refl _) _)
  have h0 := Lib.hid (show FoS w e b k w.heap.size 0 (.slice none 0 0) (w.alloc (.cells sayCells 182)) from ⟨hk.alloc _, Has.new _ _ _, flds_nil _ _, hb4.out⟩)
  clear hN hM hk hb4
  unfold FieldsR
  go_enter Tryd.func157, Tryd.ntmps157
  go_wp2_with (go_at_call 135; (with_reducible refine Calls.mono (sayings_any _) ?_); rintro r w4 ⟨rfl, rfl⟩)
  go_loopw [3, 10] (fun v x wr => ∃ j : Nat, j ≤ 3 ∧ x = .int .i64 (j : Int) ∧ FoS w e b k w.heap.size j v wr) (fun _ x _ => 3 - (intOf x).toNat)
  case atStart => exact ⟨0, by omega, rfl, h0.out⟩
  case round =>
    obtain ⟨j, hj, rfl, hF⟩ := hrel
    clear h0
    rcases (show j = 3 ∨ j = 0 ∨ j = 1 ∨ j = 2 by omega) with rfl | rfl | rfl | rfl
    · have hF' := Lib.hid hF
      clear hF
      go_wp2
      go_ret
      refine ⟨_, rfl, ?_, hF'.out.be⟩
      rw [← grE_all]
      exact hF'.out.fl
    · have s0 := hF.sy.cell 0
      have s1 := hF.sy.cell 1
      have s2 := hF.sy.cell 2
      have s3 := hF.sy.cell 3
      unfold sayCells at s0 s1 s2 s3
      have hF' := Lib.hid hF
      have hnew0 := Has.new wr 182 #[.int .i64 5, .int .i64 3, .func (.func 165) #[] #[], .func (.func 166) #[] #[]]
      have hb5 : Below wr.heap.size wr (wr.alloc (.cells #[.int .i64 5, .int .i64 3, .func (.func 165) #[] #[], .func (.func 166) #[] #[]] 182)) := (Below.refl _ _).alloc (Nat.le_refl _) _
      obtain ⟨w5, hw5⟩ : ∃ w5, wr.alloc (.cells #[.int .i64 5, .int .i64 3, .func (.func 165) #[] #[], .func (.func 166) #[] #[]] 182) = w5 := ⟨_, rfl⟩
      rw [hw5] at hnew0 hb5
      have hnew := Lib.hid hnew0
      have hb5' := Lib.hid hb5
      have hall5 := Lib.hid (fun W (hb : Below w5.heap.size w5 W) => show W.cell? ⟨wr.heap.size, 2, none⟩ = some (.func (.func 165) #[] #[]) ∧ W.cell? ⟨wr.heap.size, 3, none⟩ = some (.func (.func 166) #[] #[]) from ⟨(hnew.out.below hb hnew.out.lt).cell 2, (hnew.out.below hb hnew.out.lt).cell 3⟩)
      have htx := Lib.hid (fun W (hb : Below w5.heap.size w5 W) => text1_any k e b W ((hF'.out.fr.below hb5'.out hF'.out.fr.lt).below hb (Nat.lt_of_lt_of_le hF'.out.fr.lt hb5'.out.size)))
      have hb05 := Lib.hid (hF.be.trans (hb5.mono hF.be.size))
      obtain ⟨vl, hvl⟩ : ∃ vl, (aloneL e.1) = vl := ⟨_, rfl⟩
      obtain ⟨m, hm⟩ : ∃ m, vl.length = m := ⟨_, rfl⟩
      have hmI : m ≤ 65537 := by rw [← hm, ← hvl]; have := aloneL_len e.1; omega
      have hva := Lib.hid (fun W (hb : Below w5.heap.size w5 W) => (alone_any e.1 W).mono (R' := fun r w' => ∃ (A : Option Addr) (g c : Nat) (cs : Array Value), r = .returned (.slice A m c) ∧ (0 < m → A = some ⟨g, 0, none⟩ ∧ Has w' g 9 cs) ∧ (∀ (j : Nat) (y : List UInt8), vl[j]? = some y → cs[j]? = some (Value.string ⟨y.toArray⟩)) ∧ Below W.heap.size W w') (fun r w' h => by unfold ValsR at h; rw [hvl, hm] at h; exact h))
      have hm' := Lib.hid hm
      have hvl' := Lib.hid hvl
      clear hb5 hnew0 hF hm hvl
      go_upto_region 5 with fail
      try rw [hw5]
      clear hw5 s0 s1 s2 s3
      go_region_held3 (fun W => W.cell? ⟨wr.heap.size, 2, none⟩ = some (.func (.func 165) #[] #[]) ∧ W.cell? ⟨wr.heap.size, 3, none⟩ = some (.func (.func 166) #[] #[]))
        (first
        | (with_reducible exact hall5.out _ (Below.refl _ _).drew)
        | (with_reducible exact hall5.out _ hd7.out)
        | fail)
        (first
        | (go_at_call 165; (with_reducible refine Calls.mono (htx.out _ (Below.refl _ _).drew) ?_); rintro r w6 ⟨rfl, rfl⟩)
        | (go_at_call 166; (with_reducible refine Calls.mono (hva.out _ (Below.refl _ _).drew) ?_); rintro r w7 ⟨A7, gv, c7, cs7, rfl, hv7, hc7, hb7⟩; have hd7 := Lib.hid ((Below.refl w5.heap.size w5).drew.trans (hb7.mono (Nat.le_refl _))); have hv7' := Lib.hid hv7; have hc7' := Lib.hid hc7; clear hb7 hv7 hc7)
        | fail)
      have hF7 := Lib.hid ((hF'.out.below hb5'.out).below hd7.out)
      have hi0 := Lib.hid (show FiS w e b k w.heap.size (grE e 0) 5 idN vl wr.heap.size gv #[.int .i64 5, .int .i64 3, .func (.func 165) #[] #[], .func (.func 166) #[] #[]] cs7 0 u3 w7 from ⟨hnew.out.below hd7.out hnew.out.lt, fun h => (hv7'.out (by rw [← hm'.out]; exact h)).2, hF7.out.fr, hF7.out.sy, by rw [List.take_zero, List.map_nil, List.append_nil]; exact hF7.out.fl, hF7.out.be⟩)
      have hsz7 := Nat.le_trans hb05.out.size hd7.out.size
      have hSlt := Nat.lt_of_lt_of_le hnew.out.lt hd7.out.size
      clear hall5 htx hva hnew hb5'
      go_wp2_with fail
      generalize wr.heap.size = sB at hi0 hSlt ⊢
      go_loopw [3, 22] (fun v x W => ∃ i : Nat, i ≤ m ∧ x = .int .i64 (i : Int) ∧ FiS w e b k w.heap.size (grE e 0) 5 idN vl sB gv #[.int .i64 5, .int .i64 3, .func (.func 165) #[] #[], .func (.func 166) #[] #[]] cs7 i v W) (fun _ x _ => m - (intOf x).toNat)
      case atStart => exact ⟨0, Nat.zero_le _, rfl, hi0.out⟩
      case round =>
        obtain ⟨i, hi, rfl, hI⟩ := hrel
        obtain ⟨A3, g3, c3, cur3, hv3, _⟩ := hI.fl.shape
        obtain ⟨n3, hn3⟩ : ∃ n3, (grE e 0 ++ (vl.take i).map fun p => ((5 : Int), idN, p)).length = n3 := ⟨_, rfl⟩
        have hn3b : n3 ≤ 70000 := by rw [← hn3, List.length_append, List.length_map, List.length_take]; have := hm'.out; have : (grE e 0).length ≤ 2 := (by simp [grE]); omega
        rw [hn3] at hv3
        subst hv3
        have hI' := Lib.hid hI
        have sc0 := hI.s.cell 0
        have hn3' := Lib.hid hn3
        clear hI hn3
        by_cases hlt : i < m
        · have hltI : (i : Int) < (m : Int) := by omega
          obtain ⟨y, hy⟩ : ∃ y, vl[i]? = some y := ⟨vl[i]'(by have := hm'.out; omega), List.getElem?_eq_getElem _⟩
          obtain ⟨rfl, _⟩ := hv7'.out (by omega)
          have ck := (hI'.out.vs (by have := hm'.out; omega)).cell i
          rw [hc7'.out i y hy] at ck
          have hy' := Lib.hid hy
          clear hy
          have hNw := hN'.out.below hI'.out.be
          have hnm := Lib.hid (fun W (hb : Below wr.heap.size wr W) => (nameF_any 5 W (hNw.below hb)).mono (R' := fun r w' => r = .returned (.string ⟨(idN).toArray⟩) ∧ W = w') (fun r w' h => h))
          have hall8 := Lib.hid (fun W (hb : Below wr.heap.size wr W) => show W.cell? ⟨sB, 0, none⟩ = some (.int .i64 5) from (hI'.out.s.below hb hI'.out.s.lt).cell 0)
          have hb8 := Lib.hid (show Below wr.heap.size wr ((wr.alloc (.cells (fldC (5, idN, y)).toArray 40)).drew) from ((Below.refl _ _).alloc (Nat.le_refl _) _).drew)
          have hnw8 := Lib.hid (show Has ((wr.alloc (.cells (fldC (5, idN, y)).toArray 40)).drew) wr.heap.size 40 (fldC (5, idN, y)).toArray from Has.new _ _ _)
          have hf8 := Lib.hid (hI'.out.fl.below hb8.out)
          have hap := Lib.hid (fun (o : Oper) (ops : Array Oper) (a : Act) (K : Act → World → Prop) (Q : Exit → Act → World → Prop) (X : Prop) (s x : Operand) (hgd : o.guard = none) (ho : o.op = .call { callee := .builtin .append, args := #[s, x], argTypes := #[205, 205] }) (hsv : a.eval s = .slice A3 n3 c3) (hxv : a.eval x = .slice (some ⟨wr.heap.size, 0, none⟩) 1 1) =>
            step_append_fld (ops := ops) (K := K) (Q := Q) (X := X) hgd s x ho hsv hf8.out wr.heap.size (5, idN, y) hxv hnw8.out (by rw [hn3'.out]; omega) (by have := hI'.out.be.size; simp; omega))
          clear hNw
          go_upto_region 8 with fail
          go_region_held3 (fun W => W.cell? ⟨sB, 0, none⟩ = some (.int .i64 5))
            (first
            | (with_reducible exact hall8.out _ (Below.refl _ _).drew)
            | (with_reducible exact hs9.out)
            | (exact hall8.out _ hb8.out)
            | fail)
            (first
            | (go_at_call 38; (with_reducible refine Calls.mono (hnm.out _ (Below.refl _ _).drew) ?_); rintro r w8 ⟨rfl, rfl⟩)
            | (refine hap.out _ _ _ _ _ _ (.tmp 26) (.tmp 34) rfl rfl rfl rfl ?_; intro v9 w9 hf9 hg9; have hf9' := Lib.hid hf9; have hg9' := Lib.hid hg9; have hs9 := Lib.hid (show w9.cell? ⟨sB, 0, none⟩ = some (.int .i64 5) from (grown_keeps (hI'.out.s.below hb8.out hI'.out.s.lt) hf8.out hg9 (by decide)).cell 0); clear hf9 hg9)
            | fail)
          go_wp2
          refine ⟨⟨i + 1, by omega, by go_num, ?_⟩, by simp [intOf]; omega⟩
          exact ⟨grown_keeps (hI'.out.s.below hb8.out hI'.out.s.lt) hf8.out hg9'.out (by decide), fun h => grown_keeps ((hI'.out.vs h).below hb8.out (hI'.out.vs h).lt) hf8.out hg9'.out (by decide), grown_keeps (hI'.out.fr.below hb8.out hI'.out.fr.lt) hf8.out hg9'.out (by decide), grown_keeps (hI'.out.sy.below hb8.out hI'.out.sy.lt) hf8.out hg9'.out (by decide),
            by rw [← take_map_snoc _ hy'.out]; exact hf9'.out, (hI'.out.be.trans (hb8.out.mono hI'.out.be.size)).grown hg9'.out (Nat.le_trans hI'.out.be.size hb8.out.size) (fun g e => (hf8.out.own g e).1)⟩
        · obtain rfl : i = m := by omega
          have hend := Lib.hid (hI'.out)
          go_wp2
          refine ⟨⟨1, by omega, by go_num, hend.out.fr, hend.out.sy, ?_, hend.out.be⟩, by simp [intOf]⟩
          have hfl := hend.out.fl
          rw [List.take_of_length_le (by have := hm'.out; omega), ← hvl'.out] at hfl
          exact hfl
    · have s0 := hF.sy.cell 4
      have s1 := hF.sy.cell 5
      have s2 := hF.sy.cell 6
      have s3 := hF.sy.cell 7
      unfold sayCells at s0 s1 s2 s3
      have hF' := Lib.hid hF
      have hnew0 := Has.new wr 182 #[.int .i64 4, .int .i64 2, .func (.func 167) #[] #[], .func (.func 166) #[] #[]]
      have hb5 : Below wr.heap.size wr (wr.alloc (.cells #[.int .i64 4, .int .i64 2, .func (.func 167) #[] #[], .func (.func 166) #[] #[]] 182)) := (Below.refl _ _).alloc (Nat.le_refl _) _
      obtain ⟨w5, hw5⟩ : ∃ w5, wr.alloc (.cells #[.int .i64 4, .int .i64 2, .func (.func 167) #[] #[], .func (.func 166) #[] #[]] 182) = w5 := ⟨_, rfl⟩
      rw [hw5] at hnew0 hb5
      have hnew := Lib.hid hnew0
      have hb5' := Lib.hid hb5
      have hall5 := Lib.hid (fun W (hb : Below w5.heap.size w5 W) => show W.cell? ⟨wr.heap.size, 2, none⟩ = some (.func (.func 167) #[] #[]) ∧ W.cell? ⟨wr.heap.size, 3, none⟩ = some (.func (.func 166) #[] #[]) from ⟨(hnew.out.below hb hnew.out.lt).cell 2, (hnew.out.below hb hnew.out.lt).cell 3⟩)
      have htx := Lib.hid (fun W (hb : Below w5.heap.size w5 W) => text2_any k e b W ((hF'.out.fr.below hb5'.out hF'.out.fr.lt).below hb (Nat.lt_of_lt_of_le hF'.out.fr.lt hb5'.out.size)))
      have hb05 := Lib.hid (hF.be.trans (hb5.mono hF.be.size))
      obtain ⟨vl, hvl⟩ : ∃ vl, (aloneL e.2.1) = vl := ⟨_, rfl⟩
      obtain ⟨m, hm⟩ : ∃ m, vl.length = m := ⟨_, rfl⟩
      have hmI : m ≤ 65537 := by rw [← hm, ← hvl]; have := aloneL_len e.2.1; omega
      have hva := Lib.hid (fun W (hb : Below w5.heap.size w5 W) => (alone_any e.2.1 W).mono (R' := fun r w' => ∃ (A : Option Addr) (g c : Nat) (cs : Array Value), r = .returned (.slice A m c) ∧ (0 < m → A = some ⟨g, 0, none⟩ ∧ Has w' g 9 cs) ∧ (∀ (j : Nat) (y : List UInt8), vl[j]? = some y → cs[j]? = some (Value.string ⟨y.toArray⟩)) ∧ Below W.heap.size W w') (fun r w' h => by unfold ValsR at h; rw [hvl, hm] at h; exact h))
      have hm' := Lib.hid hm
      have hvl' := Lib.hid hvl
      clear hb5 hnew0 hF hm hvl
      go_upto_region 5 with fail
      try rw [hw5]
      clear hw5 s0 s1 s2 s3
      go_region_held3 (fun W => W.cell? ⟨wr.heap.size, 2, none⟩ = some (.func (.func 167) #[] #[]) ∧ W.cell? ⟨wr.heap.size, 3, none⟩ = some (.func (.func 166) #[] #[]))
        (first
        | (with_reducible exact hall5.out _ (Below.refl _ _).drew)
        | (with_reducible exact hall5.out _ hd7.out)
        | fail)
        (first
        | (go_at_call 167; (with_reducible refine Calls.mono (htx.out _ (Below.refl _ _).drew) ?_); rintro r w6 ⟨rfl, rfl⟩)
        | (go_at_call 166; (with_reducible refine Calls.mono (hva.out _ (Below.refl _ _).drew) ?_); rintro r w7 ⟨A7, gv, c7, cs7, rfl, hv7, hc7, hb7⟩; have hd7 := Lib.hid ((Below.refl w5.heap.size w5).drew.trans (hb7.mono (Nat.le_refl _))); have hv7' := Lib.hid hv7; have hc7' := Lib.hid hc7; clear hb7 hv7 hc7)
        | fail)
      have hF7 := Lib.hid ((hF'.out.below hb5'.out).below hd7.out)
      have hi0 := Lib.hid (show FiS w e b k w.heap.size (grE e 1) 4 eventN vl wr.heap.size gv #[.int .i64 4, .int .i64 2, .func (.func 167) #[] #[], .func (.func 166) #[] #[]] cs7 0 u3 w7 from ⟨hnew.out.below hd7.out hnew.out.lt, fun h => (hv7'.out (by rw [← hm'.out]; exact h)).2, hF7.out.fr, hF7.out.sy, by rw [List.take_zero, List.map_nil, List.append_nil]; exact hF7.out.fl, hF7.out.be⟩)
      have hsz7 := Nat.le_trans hb05.out.size hd7.out.size
      have hSlt := Nat.lt_of_lt_of_le hnew.out.lt hd7.out.size
      clear hall5 htx hva hnew hb5'
      go_wp2_with fail
      generalize wr.heap.size = sB at hi0 hSlt ⊢
      go_loopw [3, 22] (fun v x W => ∃ i : Nat, i ≤ m ∧ x = .int .i64 (i : Int) ∧ FiS w e b k w.heap.size (grE e 1) 4 eventN vl sB gv #[.int .i64 4, .int .i64 2, .func (.func 167) #[] #[], .func (.func 166) #[] #[]] cs7 i v W) (fun _ x _ => m - (intOf x).toNat)
      case atStart => exact ⟨0, Nat.zero_le _, rfl, hi0.out⟩
      case round =>
        obtain ⟨i, hi, rfl, hI⟩ := hrel
        obtain ⟨A3, g3, c3, cur3, hv3, _⟩ := hI.fl.shape
        obtain ⟨n3, hn3⟩ : ∃ n3, (grE e 1 ++ (vl.take i).map fun p => ((4 : Int), eventN, p)).length = n3 := ⟨_, rfl⟩
        have hn3b : n3 ≤ 70000 := by rw [← hn3, List.length_append, List.length_map, List.length_take]; have := hm'.out; have : (grE e 1).length ≤ 2 := (by have := aloneL_len e.1; simp [grE]; omega); omega
        rw [hn3] at hv3
        subst hv3
        have hI' := Lib.hid hI
        have sc0 := hI.s.cell 0
        have hn3' := Lib.hid hn3
        clear hI hn3
        by_cases hlt : i < m
        · have hltI : (i : Int) < (m : Int) := by omega
          obtain ⟨y, hy⟩ : ∃ y, vl[i]? = some y := ⟨vl[i]'(by have := hm'.out; omega), List.getElem?_eq_getElem _⟩
          obtain ⟨rfl, _⟩ := hv7'.out (by omega)
          have ck := (hI'.out.vs (by have := hm'.out; omega)).cell i
          rw [hc7'.out i y hy] at ck
          have hy' := Lib.hid hy
          clear hy
          have hNw := hN'.out.below hI'.out.be
          have hnm := Lib.hid (fun W (hb : Below wr.heap.size wr W) => (nameF_any 4 W (hNw.below hb)).mono (R' := fun r w' => r = .returned (.string ⟨(eventN).toArray⟩) ∧ W = w') (fun r w' h => h))
          have hall8 := Lib.hid (fun W (hb : Below wr.heap.size wr W) => show W.cell? ⟨sB, 0, none⟩ = some (.int .i64 4) from (hI'.out.s.below hb hI'.out.s.lt).cell 0)
          have hb8 := Lib.hid (show Below wr.heap.size wr ((wr.alloc (.cells (fldC (4, eventN, y)).toArray 40)).drew) from ((Below.refl _ _).alloc (Nat.le_refl _) _).drew)
          have hnw8 := Lib.hid (show Has ((wr.alloc (.cells (fldC (4, eventN, y)).toArray 40)).drew) wr.heap.size 40 (fldC (4, eventN, y)).toArray from Has.new _ _ _)
          have hf8 := Lib.hid (hI'.out.fl.below hb8.out)
          have hap := Lib.hid (fun (o : Oper) (ops : Array Oper) (a : Act) (K : Act → World → Prop) (Q : Exit → Act → World → Prop) (X : Prop) (s x : Operand) (hgd : o.guard = none) (ho : o.op = .call { callee := .builtin .append, args := #[s, x], argTypes := #[205, 205] }) (hsv : a.eval s = .slice A3 n3 c3) (hxv : a.eval x = .slice (some ⟨wr.heap.size, 0, none⟩) 1 1) =>
            step_append_fld (ops := ops) (K := K) (Q := Q) (X := X) hgd s x ho hsv hf8.out wr.heap.size (4, eventN, y) hxv hnw8.out (by rw [hn3'.out]; omega) (by have := hI'.out.be.size; simp; omega))
          clear hNw
          go_upto_region 8 with fail
          go_region_held3 (fun W => W.cell? ⟨sB, 0, none⟩ = some (.int .i64 4))
            (first
            | (with_reducible exact hall8.out _ (Below.refl _ _).drew)
            | (with_reducible exact hs9.out)
            | (exact hall8.out _ hb8.out)
            | fail)
            (first
            | (go_at_call 38; (with_reducible refine Calls.mono (hnm.out _ (Below.refl _ _).drew) ?_); rintro r w8 ⟨rfl, rfl⟩)
            | (refine hap.out _ _ _ _ _ _ (.tmp 26) (.tmp 34) rfl rfl rfl rfl ?_; intro v9 w9 hf9 hg9; have hf9' := Lib.hid hf9; have hg9' := Lib.hid hg9; have hs9 := Lib.hid (show w9.cell? ⟨sB, 0, none⟩ = some (.int .i64 4) from (grown_keeps (hI'.out.s.below hb8.out hI'.out.s.lt) hf8.out hg9 (by decide)).cell 0); clear hf9 hg9)
            | fail)
          go_wp2
          refine ⟨⟨i + 1, by omega, by go_num, ?_⟩, by simp [intOf]; omega⟩
          exact ⟨grown_keeps (hI'.out.s.below hb8.out hI'.out.s.lt) hf8.out hg9'.out (by decide), fun h => grown_keeps ((hI'.out.vs h).below hb8.out (hI'.out.vs h).lt) hf8.out hg9'.out (by decide), grown_keeps (hI'.out.fr.below hb8.out hI'.out.fr.lt) hf8.out hg9'.out (by decide), grown_keeps (hI'.out.sy.below hb8.out hI'.out.sy.lt) hf8.out hg9'.out (by decide),
            by rw [← take_map_snoc _ hy'.out]; exact hf9'.out, (hI'.out.be.trans (hb8.out.mono hI'.out.be.size)).grown hg9'.out (Nat.le_trans hI'.out.be.size hb8.out.size) (fun g e => (hf8.out.own g e).1)⟩
        · obtain rfl : i = m := by omega
          have hend := Lib.hid (hI'.out)
          go_wp2
          refine ⟨⟨2, by omega, by go_num, hend.out.fr, hend.out.sy, ?_, hend.out.be⟩, by simp [intOf]⟩
          have hfl := hend.out.fl
          rw [List.take_of_length_le (by have := hm'.out; omega), ← hvl'.out] at hfl
          exact hfl
    · have s0 := hF.sy.cell 8
      have s1 := hF.sy.cell 9
      have s2 := hF.sy.cell 10
      have s3 := hF.sy.cell 11
      unfold sayCells at s0 s1 s2 s3
      have hF' := Lib.hid hF
      have hnew0 := Has.new wr 182 #[.int .i64 3, .int .i64 1, .func (.func 168) #[] #[], .func (.func 169) #[] #[]]
      have hb5 : Below wr.heap.size wr (wr.alloc (.cells #[.int .i64 3, .int .i64 1, .func (.func 168) #[] #[], .func (.func 169) #[] #[]] 182)) := (Below.refl _ _).alloc (Nat.le_refl _) _
      obtain ⟨w5, hw5⟩ : ∃ w5, wr.alloc (.cells #[.int .i64 3, .int .i64 1, .func (.func 168) #[] #[], .func (.func 169) #[] #[]] 182) = w5 := ⟨_, rfl⟩
      rw [hw5] at hnew0 hb5
      have hnew := Lib.hid hnew0
      have hb5' := Lib.hid hb5
      have hall5 := Lib.hid (fun W (hb : Below w5.heap.size w5 W) => show W.cell? ⟨wr.heap.size, 2, none⟩ = some (.func (.func 168) #[] #[]) ∧ W.cell? ⟨wr.heap.size, 3, none⟩ = some (.func (.func 169) #[] #[]) from ⟨(hnew.out.below hb hnew.out.lt).cell 2, (hnew.out.below hb hnew.out.lt).cell 3⟩)
      have htx := Lib.hid (fun W (hb : Below w5.heap.size w5 W) => text3_any k e b W ((hF'.out.fr.below hb5'.out hF'.out.fr.lt).below hb (Nat.lt_of_lt_of_le hF'.out.fr.lt hb5'.out.size)))
      have hb05 := Lib.hid (hF.be.trans (hb5.mono hF.be.size))
      obtain ⟨vl, hvl⟩ : ∃ vl, (partsL e.2.2) = vl := ⟨_, rfl⟩
      obtain ⟨m, hm⟩ : ∃ m, vl.length = m := ⟨_, rfl⟩
      have hmI : m ≤ 65537 := by rw [← hm, ← hvl]; have := partsL_many e.2.2; omega
      have hva := Lib.hid (fun W (hb : Below w5.heap.size w5 W) => (parts_any e.2.2 W (by omega) (hM'.out.below (hb05.out.trans (hb.mono hb05.out.size)))).mono (R' := fun r w' => ∃ (A : Option Addr) (g c : Nat) (cs : Array Value), r = .returned (.slice A m c) ∧ (0 < m → A = some ⟨g, 0, none⟩ ∧ Has w' g 9 cs) ∧ (∀ (j : Nat) (y : List UInt8), vl[j]? = some y → cs[j]? = some (Value.string ⟨y.toArray⟩)) ∧ Below W.heap.size W w') (fun r w' h => by unfold ValsR at h; rw [hvl, hm] at h; exact h))
      have hm' := Lib.hid hm
      have hvl' := Lib.hid hvl
      clear hb5 hnew0 hF hm hvl
      go_upto_region 5 with fail
      try rw [hw5]
      clear hw5 s0 s1 s2 s3
      go_region_held3 (fun W => W.cell? ⟨wr.heap.size, 2, none⟩ = some (.func (.func 168) #[] #[]) ∧ W.cell? ⟨wr.heap.size, 3, none⟩ = some (.func (.func 169) #[] #[]))
        (first
        | (with_reducible exact hall5.out _ (Below.refl _ _).drew)
        | (with_reducible exact hall5.out _ hd7.out)
        | fail)
        (first
        | (go_at_call 168; (with_reducible refine Calls.mono (htx.out _ (Below.refl _ _).drew) ?_); rintro r w6 ⟨rfl, rfl⟩)
        | (go_at_call 169; (with_reducible refine Calls.mono (hva.out _ (Below.refl _ _).drew) ?_); rintro r w7 ⟨A7, gv, c7, cs7, rfl, hv7, hc7, hb7⟩; have hd7 := Lib.hid ((Below.refl w5.heap.size w5).drew.trans (hb7.mono (Nat.le_refl _))); have hv7' := Lib.hid hv7; have hc7' := Lib.hid hc7; clear hb7 hv7 hc7)
        | fail)
      have hF7 := Lib.hid ((hF'.out.below hb5'.out).below hd7.out)
      have hi0 := Lib.hid (show FiS w e b k w.heap.size (grE e 2) 3 dataN vl wr.heap.size gv #[.int .i64 3, .int .i64 1, .func (.func 168) #[] #[], .func (.func 169) #[] #[]] cs7 0 u3 w7 from ⟨hnew.out.below hd7.out hnew.out.lt, fun h => (hv7'.out (by rw [← hm'.out]; exact h)).2, hF7.out.fr, hF7.out.sy, by rw [List.take_zero, List.map_nil, List.append_nil]; exact hF7.out.fl, hF7.out.be⟩)
      have hsz7 := Nat.le_trans hb05.out.size hd7.out.size
      have hSlt := Nat.lt_of_lt_of_le hnew.out.lt hd7.out.size
      clear hall5 htx hva hnew hb5'
      go_wp2_with fail
      generalize wr.heap.size = sB at hi0 hSlt ⊢
      go_loopw [3, 22] (fun v x W => ∃ i : Nat, i ≤ m ∧ x = .int .i64 (i : Int) ∧ FiS w e b k w.heap.size (grE e 2) 3 dataN vl sB gv #[.int .i64 3, .int .i64 1, .func (.func 168) #[] #[], .func (.func 169) #[] #[]] cs7 i v W) (fun _ x _ => m - (intOf x).toNat)
      case atStart => exact ⟨0, Nat.zero_le _, rfl, hi0.out⟩
      case round =>
        obtain ⟨i, hi, rfl, hI⟩ := hrel
        obtain ⟨A3, g3, c3, cur3, hv3, _⟩ := hI.fl.shape
        obtain ⟨n3, hn3⟩ : ∃ n3, (grE e 2 ++ (vl.take i).map fun p => ((3 : Int), dataN, p)).length = n3 := ⟨_, rfl⟩
        have hn3b : n3 ≤ 70000 := by rw [← hn3, List.length_append, List.length_map, List.length_take]; have := hm'.out; have : (grE e 2).length ≤ 2 := (by have := aloneL_len e.1; have := aloneL_len e.2.1; simp [grE]; omega); omega
        rw [hn3] at hv3
        subst hv3
        have hI' := Lib.hid hI
        have sc0 := hI.s.cell 0
        have hn3' := Lib.hid hn3
        clear hI hn3
        by_cases hlt : i < m
        · have hltI : (i : Int) < (m : Int) := by omega
          obtain ⟨y, hy⟩ : ∃ y, vl[i]? = some y := ⟨vl[i]'(by have := hm'.out; omega), List.getElem?_eq_getElem _⟩
          obtain ⟨rfl, _⟩ := hv7'.out (by omega)
          have ck := (hI'.out.vs (by have := hm'.out; omega)).cell i
          rw [hc7'.out i y hy] at ck
          have hy' := Lib.hid hy
          clear hy
          have hNw := hN'.out.below hI'.out.be
          have hnm := Lib.hid (fun W (hb : Below wr.heap.size wr W) => (nameF_any 3 W (hNw.below hb)).mono (R' := fun r w' => r = .returned (.string ⟨(dataN).toArray⟩) ∧ W = w') (fun r w' h => h))
          have hall8 := Lib.hid (fun W (hb : Below wr.heap.size wr W) => show W.cell? ⟨sB, 0, none⟩ = some (.int .i64 3) from (hI'.out.s.below hb hI'.out.s.lt).cell 0)
          have hb8 := Lib.hid (show Below wr.heap.size wr ((wr.alloc (.cells (fldC (3, dataN, y)).toArray 40)).drew) from ((Below.refl _ _).alloc (Nat.le_refl _) _).drew)
          have hnw8 := Lib.hid (show Has ((wr.alloc (.cells (fldC (3, dataN, y)).toArray 40)).drew) wr.heap.size 40 (fldC (3, dataN, y)).toArray from Has.new _ _ _)
          have hf8 := Lib.hid (hI'.out.fl.below hb8.out)
          have hap := Lib.hid (fun (o : Oper) (ops : Array Oper) (a : Act) (K : Act → World → Prop) (Q : Exit → Act → World → Prop) (X : Prop) (s x : Operand) (hgd : o.guard = none) (ho : o.op = .call { callee := .builtin .append, args := #[s, x], argTypes := #[205, 205] }) (hsv : a.eval s = .slice A3 n3 c3) (hxv : a.eval x = .slice (some ⟨wr.heap.size, 0, none⟩) 1 1) =>
            step_append_fld (ops := ops) (K := K) (Q := Q) (X := X) hgd s x ho hsv hf8.out wr.heap.size (3, dataN, y) hxv hnw8.out (by rw [hn3'.out]; omega) (by have := hI'.out.be.size; simp; omega))
          clear hNw
          go_upto_region 8 with fail
          go_region_held3 (fun W => W.cell? ⟨sB, 0, none⟩ = some (.int .i64 3))
            (first
            | (with_reducible exact hall8.out _ (Below.refl _ _).drew)
            | (with_reducible exact hs9.out)
            | (exact hall8.out _ hb8.out)
            | fail)
            (first
            | (go_at_call 38; (with_reducible refine Calls.mono (hnm.out _ (Below.refl _ _).drew) ?_); rintro r w8 ⟨rfl, rfl⟩)
            | (refine hap.out _ _ _ _ _ _ (.tmp 26) (.tmp 34) rfl rfl rfl rfl ?_; intro v9 w9 hf9 hg9; have hf9' := Lib.hid hf9; have hg9' := Lib.hid hg9; have hs9 := Lib.hid (show w9.cell? ⟨sB, 0, none⟩ = some (.int .i64 3) from (grown_keeps (hI'.out.s.below hb8.out hI'.out.s.lt) hf8.out hg9 (by decide)).cell 0); clear hf9 hg9)
            | fail)
          go_wp2
          refine ⟨⟨i + 1, by omega, by go_num, ?_⟩, by simp [intOf]; omega⟩
          exact ⟨grown_keeps (hI'.out.s.below hb8.out hI'.out.s.lt) hf8.out hg9'.out (by decide), fun h => grown_keeps ((hI'.out.vs h).below hb8.out (hI'.out.vs h).lt) hf8.out hg9'.out (by decide), grown_keeps (hI'.out.fr.below hb8.out hI'.out.fr.lt) hf8.out hg9'.out (by decide), grown_keeps (hI'.out.sy.below hb8.out hI'.out.sy.lt) hf8.out hg9'.out (by decide),
            by rw [← take_map_snoc _ hy'.out]; exact hf9'.out, (hI'.out.be.trans (hb8.out.mono hI'.out.be.size)).grown hg9'.out (Nat.le_trans hI'.out.be.size hb8.out.size) (fun g e => (hf8.out.own g e).1)⟩
        · obtain rfl : i = m := by omega
          have hend := Lib.hid (hI'.out)
          go_wp2
          refine ⟨⟨3, by omega, by go_num, hend.out.fr, hend.out.sy, ?_, hend.out.be⟩, by simp [intOf]⟩
          have hfl := hend.out.fl
          rw [List.take_of_length_le (by have := hm'.out; omega), ← hvl'.out] at hfl
          exact hfl
end Go.Proofs.YtlbiniibkbhghaaDoor

namespace Go.Proofs.YtlbiniibkbhghaaDoor
open Go.RowKit Go.Shelf
attribute [local go_sem] Oper.semAt_some
attribute [local go_sem] wide_fn wide_depth wide_round

/-! ## (*frame).put -/
/-- The frame of an event lies in block k, and holds these bytes. -/
def FrB (W : World) (n0 k : Nat) (e : Ev) (l : List UInt8) : Prop := ∃ v, Has W k 175 (frCells e v) ∧ Bs W n0 v l
def PutR (e : Ev) (n0 k : Nat) (l : List UInt8) (w : World) (r : Ending) (w' : World) : Prop := r = .returned (.tuple #[]) ∧ FrB w' n0 k e l ∧ KeepC n0 (· = k) w w' ∧ KeepsOthers w w' ∧ (∀ B, B ≤ n0 → B ≤ k → Below B w w')
theorem bs_cells {w : World} {n0 : Nat} {v : Value} {l : List UInt8} (h : Bs w n0 v l) : ∀ (j : Nat) (o : Obj), v.ownBlock = some j → w.heap[j]? = some o → o.isCells = true := by
  intro j o hj ho
  obtain ⟨_, cs, hh⟩ := h.own j hj
  have h3 : w.heap[j]? = some (.cells cs 5 (0, 0)) := hh
  rw [h3] at ho
  rw [← Option.some.inj ho]
  rfl
theorem Has.grownB {X Y : World} {k n0 : Nat} {t : TypeId} {cs : Array Value} {v : Value} {l : List UInt8} (h : Has X k t cs) (hv : Bs X n0 v l) (hg : X.grownBy Y v.ownBlock) (hk : k < n0) : Has Y k t cs :=
  (hg.block k h.lt (fun e => by have := (hv.own k e.symm).1; omega)).trans h
set_option maxRecDepth 100000 in
set_option maxHeartbeats 2000000 in
theorem put_any (e : Ev) (n0 k : Nat) (l line : List UInt8) (w : World) (h : FrB w n0 k e l) (hk : k < n0) (hn : n0 ≤ w.heap.size) (hs : l.length + line.length ≤ 1099511627776) :
    Calls Tryd.prog 163 #[.pointer (some ⟨k, 0, none⟩), .string ⟨line.toArray⟩] w (PutR e n0 k (l ++ (line ++ [10])) w) := by
  obtain ⟨v, hf, hv⟩ := h
  have hv' := Lib.hid hv
  have hf' := Lib.hid hf
  have c3 := hf.cell 3
  have f3 := hf.free 3
  unfold frCells at c3 f3
  have hcs := Lib.hid (bs_cells hv)
  obtain ⟨A, c, hvs⟩ : ∃ A c, v = .slice A l.length c := by obtain ⟨A, c, h, _⟩ := hv.shape; exact ⟨A, c, h⟩
  obtain ⟨m, hm⟩ : ∃ m, l.length = m := ⟨_, rfl⟩
  rw [hm] at hvs
  subst hvs
  have hm' := Lib.hid hm
  have hbs1 : l.length + (⟨line.toArray⟩ : ByteArray).size ≤ 140737488355328 := by show l.length + line.toArray.size ≤ _; simp; omega
  have hbs1' := Lib.hid hbs1
  have hs' := Lib.hid hs
  clear hv hf hm hbs1 hs
  unfold PutR
  go_enter Tryd.func163, Tryd.ntmps163
  go_wp2_with (first
    | (at_builtin; refine wpList_append_text rfl _ _ rfl rfl hv'.out ⟨line.toArray⟩ rfl hbs1'.out hn ?_; intro v1 w1 hv1 hg1; have hv1' := Lib.hid hv1; have hg1' := Lib.hid hg1; have hcs1 := Lib.hid (bs_cells hv1); clear hv1 hg1)
    | (at_builtin; refine wpList_append_text rfl _ _ rfl rfl hv1'.out ⟨#[10]⟩ rfl (by have := hs'.out; simp; show _ + 1 ≤ _; omega) (Nat.le_trans hn hg1'.out.size) ?_; intro v2 w2 hv2 hg2; obtain ⟨A2, m2, c2, hvs2⟩ : ∃ A2 m2 c2, v2 = .slice A2 m2 c2 := (by obtain ⟨A2, c2, h, _⟩ := hv2.shape; exact ⟨_, _, _, h⟩); subst hvs2; have hv2' := Lib.hid hv2; have hg2' := Lib.hid hg2; have hf2 := Lib.hid (((hf'.out.grownB hv'.out hg1'.out hk).grownB hv1'.out hg2 hk)); have c32 := hf2.out.cell 3; have f32 := hf2.out.free 3; clear hv2 hg2))
  go_end0
  refine ⟨rfl, ⟨_, by simpa [frCells] using hf2.out.put 3 _, ?_⟩, ?_, ?_, fun B hB hB2 => ?_⟩
  · rw [← List.append_assoc]
    exact hv2'.out.kept (fun g hg => Below.heap_setCell _ _ _ g (fun e => by have := (hv2'.out.own g hg).1; have e : g = k := e; omega))
  · exact KeepC.setCell (S := (· = k)) (((KeepC.refl n0 _ w).grown hg1'.out (hv'.out.own)).grown hg2'.out (hv1'.out.own)) (p := ⟨k, 3, none⟩) rfl _
  · exact ((KeepsOthers.of_grownBy hg1'.out hcs.out).trans (KeepsOthers.of_grownBy hg2'.out hcs1.out)).trans (KeepsOthers.setCell _ _ _)
  · exact (((Below.refl B w).grown hg1'.out (by omega) (fun g e => by have := (hv'.out.own g e).1; omega)).grown hg2'.out (by have := hg1'.out.size; omega) (fun g e => by have := (hv1'.out.own g e).1; omega)).setCell (p := ⟨k, 3, none⟩) hB2 _
/-! ## lines: the lines of some fields, one by one, and the empty one behind them -/
def linesOf (l : List FdT) : List (List UInt8) := l.map lineF ++ [[]]
def encLs (l : List FdT) (k : Nat) : Array Value := #[.int .i64 (k : Int), .string ⟨((linesOf l).getD k []).toArray⟩]
/-- None of the blocks that are read again and again is written. -/
def NotC (S : Nat → Prop) (bP g : Nat) : Prop := ¬ S bP ∧ ¬ S g ∧ ¬ S 1
structure EnvL (W : World) (bP g : Nat) (A : Option Addr) (l : List FdT) (n c : Nat) (cur : Array Value) : Prop where
  num : n = l.length
  box : Has W bP 205 #[.slice A n c]
  row : 0 < n → A = some ⟨g, 0, none⟩ ∧ Has W g 40 cur
  at' : ∀ (k : Nat) (f : FdT), l[k]? = some f → (cur[k * 3]? = some (Value.int .i64 f.1) ∧ cur[k * 3 + 1]? = some (Value.string ⟨f.2.1.toArray⟩) ∧ cur[k * 3 + 2]? = some (Value.string ⟨f.2.2.toArray⟩)) ∧ f.2.1.length ≤ 1000000 ∧ f.2.2.length ≤ 1000000 ∧ sayF f = true
  names : NamesT W
theorem EnvL.kept {n0 : Nat} {S : Nat → Prop} {W W' : World} {bP g n c : Nat} {A : Option Addr} {l : List FdT} {cur : Array Value} (h : EnvL W bP g A l n c cur) (hw : NotC S bP g) (hn : 1 < n0) (hk : KeepC n0 S W W') : EnvL W' bP g A l n c cur :=
  ⟨h.num, hk.has (.inr (by decide)) hw.1 h.box, fun hn => ⟨(h.row hn).1, hk.has (.inr (by decide)) hw.2.1 (h.row hn).2⟩, h.at', by obtain ⟨t, hN⟩ := h.names; exact ⟨t, hk.has (.inl hn) hw.2.2 hN⟩⟩
theorem EnvL.below {W W' : World} {bP g n c : Nat} {A : Option Addr} {l : List FdT} {cur : Array Value} (h : EnvL W bP g A l n c cur) (hb : Below W.heap.size W W') : EnvL W' bP g A l n c cur :=
  ⟨h.num, h.box.below hb h.box.lt, fun hn => ⟨(h.row hn).1, (h.row hn).2.below hb (h.row hn).2.lt⟩, h.at', h.names.below hb⟩
theorem lineOf_say {f : FdT} (h : sayF f = true) : lineOf f = (lineF f, 0) := by unfold lineOf; rw [h]; rfl
set_option maxRecDepth 100000 in
set_option maxHeartbeats 4000000 in
theorem lines1_in (n : Nat) (hn : 1 ≤ n) (l : List FdT) (y bP g N c : Nat) (A : Option Addr) (cur : Array Value) (hN : N ≤ 1000000) (n0 : Nat) (hn0 : 1 < n0) (S : Nat → Prop) (hS : NotC S bP g) (J Jx : List Nat → World → Prop)
    (hJ : ∀ ys W W', J ys W → Below W.heap.size W W' → J ys W')
    (hY : ∀ pre x W, J pre W → pre.length < N + 1 → YieldAt Fence.wide (n - 1) Tryd.prog y (encLs l x) W fun e W' =>
      (e = .returned (.bool true) ∧ J (pre ++ [x]) W' ∧ KeepC n0 S W W') ∨ (e = .returned (.bool false) ∧ Jx (pre ++ [x]) W'))
    (W : World) (hE : EnvL W bP g A l N c cur) (h0 : J [] W) :
    CallsIn Fence.wide n Tryd.prog 176 #[.func (.yield y) #[] #[], .pointer (some ⟨bP, 0, none⟩)] W fun e W' => (∃ v, e = .returned v) ∧
      ((∃ ys, ys = List.range (N + 1) ∧ J ys W') ∨ (∃ pre, (∃ k, k < N + 1 ∧ pre = List.range (k + 1)) ∧ Jx pre W')) := by
  refine callsIn_of_wp Tryd.func176 rfl trivial ?_ rfl
  simp only [Tryd.ntmps176, List.size_toArray, List.length_cons, List.length_nil, Nat.reduceAdd, Nat.reduceSub, Array.replicate_succ, Array.replicate_zero, List.push_toArray, List.append_toArray, List.nil_append, List.cons_append]
  have c0 := hE.box.cell 0
  have hE' := Lib.hid hE
  have h0' := Lib.hid h0
  clear hE h0
  gi_wp2
  gi_loopw [9] (fun x wr => ∃ k : Nat, k ≤ N ∧ x = .int .i64 (k : Int) ∧ J (List.range k) wr ∧ EnvL wr bP g A l N c cur)
    (fun x _ => N - (intOf x).toNat)
  case atStart => exact ⟨0, Nat.zero_le _, rfl, h0'.out, hE'.out⟩
  case round =>
    obtain ⟨k, hk, rfl, hJs, hE⟩ := hrel
    have hEr := Lib.hid hE
    have hJr := Lib.hid hJs
    clear hE hJs
    by_cases hlt : k < N
    · have hltI : (k : Int) < (N : Int) := by omega
      obtain ⟨f, hy⟩ : ∃ f, l[k]? = some f := ⟨l[k]'(by have := hEr.out.num; omega), List.getElem?_eq_getElem _⟩
      obtain ⟨rfl, hg⟩ := hEr.out.row (by omega)
      obtain ⟨⟨hc0, hc1, hc2⟩, hl1, hl2, hsy⟩ := hEr.out.at' k f hy
      have k0 := hg.cell (k * 3)
      have k1 := hg.cell (k * 3 + 1)
      have k2 := hg.cell (k * 3 + 2)
      rw [hc0] at k0
      rw [hc1] at k1
      rw [hc2] at k2
      have hli := fun W (hb : Below wr.heap.size wr W) => callsIn_wide (n := n - 1).2 (lineF_any f W hl1 hl2 (hEr.out.names.below hb))
      rw [lineOf_say hsy] at hli
      have htl : (linesOf l).getD k [] = lineF f := by
        have hkl := (List.getElem?_eq_some_iff.1 hy).1
        unfold linesOf
        rw [List.getD_eq_getElem?_getD, List.getElem?_append_left (by simpa using hkl), List.getElem?_map, hy]
        rfl
      have htl' := Lib.hid htl
      unfold fieldV at hli
      generalize lineF f = tx at hli htl'
      obtain ⟨ki, nm, vl⟩ := f
      simp only at hli k0 k1 k2
      have hli' := Lib.hid hli
      have hbA := Lib.hid ((Below.refl wr.heap.size wr).alloc (Nat.le_refl _) (.cells #[.int .i64 ki, .string ⟨nm.toArray⟩, .string ⟨vl.toArray⟩] 40))
      clear hli htl hy hg hc0 hc1 hc2
      gi_wp2_with fail
      refine (hli'.out _ hbA.out).mono ?_
      rintro e w2 ⟨rfl, hb2⟩
      have hb02 := Lib.hid (hbA.out.trans (hb2.mono hbA.out.size))
      obtain ⟨fn, tmps, assign, body, hyl2, hR⟩ := hY _ k w2 (hJ _ _ _ hJr.out hb02.out) (by rw [List.length_range]; omega)
      unfold encLs at hyl2
      rw [htl'.out] at hyl2
      have hy' : (Instr.yield y #[.int .i64 (k : Int), .string ⟨tx.toArray⟩]).run Tryd.prog w2 = .ok (Next.round y fn tmps assign body) w2 := hyl2
      have hR2 := Lib.hid (hR.mono (R' := fun e W' => ∃ b, e = .returned (.bool b) ∧ YPost J Jx (KeepC n0 S) (List.range (k + 1)) w2 b W') (by
        rintro e W' (⟨rfl, h1, h2⟩ | ⟨rfl, h1⟩)
        · exact ⟨true, rfl, by rw [List.range_succ]; exact h1, h2⟩
        · exact ⟨false, rfl, by show Jx _ _; rw [List.range_succ]; exact h1⟩))
      have hE2 := Lib.hid (hEr.out.below hb02.out)
      clear hyl2 hR hb2 k0 k1 k2
      gi_wp2
      refine hR2.out.mono ?_
      rintro e W3 ⟨b, rfl, hP⟩
      cases b
      · have hP' := Lib.hid (show Jx (List.range (k + 1)) W3 from hP)
        clear hP
        gi_wp2
        refine bodyPost_ret (results_none rfl _ _ _) rfl ?_
        exact ⟨⟨_, rfl⟩, .inr ⟨_, ⟨k, by omega, rfl⟩, hP'.out⟩⟩
      · have hP' := Lib.hid (show J (List.range (k + 1)) W3 ∧ KeepC n0 S w2 W3 from hP)
        clear hP
        gi_wp2
        exact ⟨⟨k + 1, by omega, by go_num, hP'.out.1, hE2.out.kept hS hn0 hP'.out.2⟩, by simp [intOf]; omega⟩
    · obtain rfl : k = N := by omega
      have cb := hEr.out.box.cell 0
      have htl : (linesOf l).getD k [] = [] := by
        unfold linesOf
        rw [List.getD_eq_getElem?_getD, List.getElem?_append_right (by rw [List.length_map]; exact Nat.le_of_eq hEr.out.num.symm), List.length_map, ← hEr.out.num, Nat.sub_self]
        rfl
      obtain ⟨fn, tmps, assign, body, hyl2, hR⟩ := hY _ k wr hJr.out (by rw [List.length_range]; omega)
      unfold encLs at hyl2
      rw [htl] at hyl2
      have hy' : (Instr.yield y #[.int .i64 (k : Int), .string ⟨#[]⟩]).run Tryd.prog wr = .ok (Next.round y fn tmps assign body) wr := hyl2
      have hR2 := Lib.hid (hR.mono (R' := fun e W' => ∃ b, e = .returned (.bool b) ∧ YPost J Jx (KeepC n0 S) (List.range (k + 1)) wr b W') (by
        rintro e W' (⟨rfl, h1, h2⟩ | ⟨rfl, h1⟩)
        · exact ⟨true, rfl, by rw [List.range_succ]; exact h1, h2⟩
        · exact ⟨false, rfl, by show Jx _ _; rw [List.range_succ]; exact h1⟩))
      clear hyl2 hR htl
      gi_wp2
      refine hR2.out.mono ?_
      rintro e W3 ⟨b, rfl, hP⟩
      cases b
      · have hP' := Lib.hid (show Jx (List.range (k + 1)) W3 from hP)
        clear hP
        gi_wp2
        go_end0
        exact ⟨⟨_, rfl⟩, .inr ⟨_, ⟨k, by omega, rfl⟩, hP'.out⟩⟩
      · have hP' := Lib.hid (show J (List.range (k + 1)) W3 ∧ KeepC n0 S wr W3 from hP)
        clear hP
        gi_wp2
        go_end0
        exact ⟨⟨_, rfl⟩, .inl ⟨_, rfl, hP'.out.1⟩⟩
theorem lines_stops (n : Nat) (hn : 1 ≤ n) (l : List FdT) (bP g N c : Nat) (A : Option Addr) (cur : Array Value) (hN : N ≤ 1000000) (n0 : Nat) (hn0 : 1 < n0) (S : Nat → Prop) (hS : NotC S bP g) (w : World) (hE : EnvL w bP g A l N c cur) :
    SeqStopsK Fence.wide n Tryd.prog 176 #[.pointer (some ⟨bP, 0, none⟩)] (encLs l) (KeepC n0 S) (fun ys => ys = List.range (N + 1)) (fun pre => ∃ k, k < N + 1 ∧ pre = List.range (k + 1)) (N + 1) w := fun y J Jx W hW hA _ hY h0 =>
  lines1_in n hn l y bP g N c A cur hN n0 hn0 S hS J Jx (fun ys W1 W2 h1 h2 => hA ys W1 W2 none h1 (grown_below h2) (fun r e => by cases e)) hY W (hE.below hW) h0
theorem lines_any (A : Option Addr) (n c : Nat) (w : World) : Calls Tryd.prog 164 #[.slice A n c] w fun e w' => e = .returned (.func (.func 176) #[] #[.pointer (some ⟨w.heap.size, 0, none⟩)]) ∧ w' = w.alloc (.cells #[.slice A n c] 205) := by
  go_enter Tryd.func164, Tryd.ntmps164
  go_wp2
  go_ret
  exact ⟨rfl, rfl⟩
end Go.Proofs.YtlbiniibkbhghaaDoor

namespace Go.Proofs.YtlbiniibkbhghaaDoor
open Go.RowKit Go.Shelf
attribute [local go_sem] Oper.semAt_some
attribute [local go_sem] wide_fn wide_depth wide_round

/-! ## join, sent -/
def lnAt (l : List FdT) (k : Nat) : List UInt8 := (linesOf l).getD k []
theorem lnAt_len {l : List FdT} (hl : ∀ f ∈ l, f.2.1.length ≤ 1000000 ∧ f.2.2.length ≤ 1000000) (k : Nat) : (lnAt l k).length ≤ 2000010 := by
  unfold lnAt
  rw [List.getD_eq_getElem?_getD]
  cases hk : (linesOf l)[k]? with
  | none => simp
  | some x =>
    have hm := List.mem_of_getElem? hk
    unfold linesOf at hm
    rcases List.mem_append.1 hm with h | h
    · obtain ⟨f, hf, rfl⟩ := List.mem_map.1 h
      obtain ⟨a, b⟩ := hl f hf
      have hb : (betw f).length ≤ 2 := by unfold betw; (repeat' split) <;> simp
      simp only [Option.getD_some, lineF, List.length_append]
      omega
    · rw [List.mem_singleton.1 h]; simp
theorem lnAt_all (l : List FdT) : (List.range (l.length + 1)).map (lnAt l) = linesOf l := by
  have hlen : (linesOf l).length = l.length + 1 := by simp [linesOf]
  rw [← hlen]
  refine List.ext_getElem? fun i => ?_
  rw [List.getElem?_map]
  by_cases hi : i < (linesOf l).length
  · rw [List.getElem?_range hi]
    simp [lnAt, List.getElem?_eq_getElem hi]
  · rw [List.getElem?_eq_none (by simp; omega), List.getElem?_eq_none (by omega)]
    rfl
theorem endsL_snoc (a : List (List UInt8)) (x : List UInt8) : endsL (a ++ [x]) = endsL a ++ (x ++ [10]) := by unfold endsL; simp
theorem ends_len {l : List FdT} (hl : ∀ f ∈ l, f.2.1.length ≤ 1000000 ∧ f.2.2.length ≤ 1000000) : ∀ pre : List Nat, (endsL (pre.map (lnAt l))).length ≤ pre.length * 2000011
  | [] => by simp [endsL]
  | k :: pre => by
    have ih := ends_len hl pre
    have := lnAt_len hl k
    have e : endsL ((k :: pre).map (lnAt l)) = (lnAt l k ++ [10]) ++ endsL (pre.map (lnAt l)) := rfl
    rw [e]
    simp only [List.length_append, List.length_cons, List.length_nil]
    omega
theorem FrB.row {X Y : World} {row : Option Nat} {B n0 k : Nat} {e : Ev} {l : List UInt8} (h : FrB X n0 k e l) (hg : X.grownBy Y row) (hr : ∀ r, row = some r → B ≤ r ∧ ∃ o : Obj, X.heap[r]? = some o ∧ o.isCells = false) : FrB Y n0 k e l := by
  obtain ⟨v, h1, h2⟩ := h
  refine ⟨v, h1.row hg hr, h2.kept fun g e => ?_⟩
  obtain ⟨_, cs, hh⟩ := h2.own g e
  exact (hh.row hg hr).trans hh.symm
theorem FrB.below {X Y : World} {n0 k : Nat} {e : Ev} {l : List UInt8} (h : FrB X n0 k e l) (hb : Below X.heap.size X Y) : FrB Y n0 k e l := by
  obtain ⟨v, h1, h2⟩ := h
  exact ⟨v, h1.below hb h1.lt, h2.below hb⟩
def JoinR (B n0 k : Nat) (e : Ev) (l : List UInt8) (w : World) (r : Ending) (w' : World) : Prop := r = .returned (.tuple #[]) ∧ FrB w' n0 k e l ∧ Below B w w'
structure JoI (B n0 k : Nat) (e : Ev) (bs : List UInt8) (l : List FdT) (w : World) (p : Nat) (pv : Value) (pre : List Nat) (W : World) : Prop where
  fr : FrB W n0 k e (bs ++ endsL (pre.map (lnAt l)))
  bx : Has W p 147 #[pv]
  be : Below B w W
set_option maxRecDepth 100000 in
set_option maxHeartbeats 4000000 in
theorem join_any (e : Ev) (n0 k B : Nat) (bs : List UInt8) (l : List FdT) (bP g N c : Nat) (A : Option Addr) (cur : Array Value) (w : World) (hE : EnvL w bP g A l N c cur) (hf : FrB w n0 k e bs) (hk : k < n0) (hn : n0 ≤ w.heap.size) (hNm : 1 < n0)
    (hS : NotC (· = k) bP g) (hN : N ≤ 100000) (hl : ∀ f ∈ l, f.2.1.length ≤ 1000000 ∧ f.2.2.length ≤ 1000000) (hb : bs.length ≤ 1000000) (hB : B ≤ n0) (hBk : B ≤ k) :
    Calls Tryd.prog 162 #[.func (.func 163) #[.pointer (some ⟨k, 0, none⟩)] #[], .func (.func 176) #[] #[.pointer (some ⟨bP, 0, none⟩)]] w (JoinR B n0 k e (bs ++ endsL (linesOf l)) w) := by
  have hnum := hE.num
  have hE' := Lib.hid hE
  have hf' := Lib.hid hf
  have hl' := Lib.hid hl
  have hnum' := Lib.hid hnum
  clear hE hf hl hnum
  unfold JoinR
  refine (callsIn_wide (n := 3)).1 ?_
  refine callsIn_of_wp_marks Tryd.func162 rfl trivial ?_ rfl
  refine wpIn_wide.2 ?_
  simp only [Tryd.ntmps162, List.size_toArray, List.length_cons, List.length_nil, Nat.reduceAdd, Nat.reduceSub, Array.replicate_succ, Array.replicate_zero, List.push_toArray, List.append_toArray, List.nil_append, List.cons_append]
  go_wp2_with fail
  have hbA : Below w.heap.size w (w.alloc (.cells #[.func (.func 163) #[.pointer (some ⟨k, 0, none⟩)] #[]] 147)) := (Below.refl _ _).alloc (Nat.le_refl _) _
  have k0 := Has.new w 147 #[.func (.func 163) #[.pointer (some ⟨k, 0, none⟩)] #[]]
  have hE1 := hE'.out.below hbA
  have hf1 := hf'.out.below hbA
  obtain ⟨w1, hw1⟩ : ∃ w1, w.alloc (.cells #[.func (.func 163) #[.pointer (some ⟨k, 0, none⟩)] #[]] 147) = w1 := ⟨_, rfl⟩
  have hz1 : w1.heap.size = w.heap.size + 1 := by rw [← hw1]; simp
  rw [hw1] at hbA k0 hE1 hf1 ⊢
  clear hw1
  have hgP := hE1.box.lt
  have hgN := hE1.names.lt
  refine (wpIn_wide (n := 3)).1 ?_
  refine wpIn_rangeFunc_ownG rfl (by omega) (gf := 176) (lb := #[.pointer (some ⟨bP, 0, none⟩)]) rfl trivial (enters_of Tryd.func176 (by kernel_rfl) rfl)
    (lines_stops 2 (by omega) l bP g N c A cur (by omega) n0 hNm (· = k) hS w1 hE1)
    (fun h k => h.trans k) (fun W l o o' _ h1 h2 _ => KeepC.putObj W l o o' h1 h2) (Below.refl _ _) (fun _ => rfl)
    (JoI B n0 k e bs l w1 w.heap.size (.func (.func 163) #[.pointer (some ⟨k, 0, none⟩)] #[])) (fun _ _ _ => False)
    (fun pre X Y row hs hg hr => ⟨hs.fr.row hg hr, hs.bx.row hg hr, hs.be.grown hg (Nat.le_trans (by omega) hs.be.size) (fun g e => by have := (hr g e).1; omega)⟩)
    (fun _ _ _ _ _ hs _ _ => hs)
    ⟨by simpa [endsL] using hf1, k0, Below.refl _ _⟩
    ?a1 ?assign ?body ?done (fun D c pre W _ _ hI _ => hI.elim)
  case assign =>
    intro l1 x W K hK
    have hK' := Lib.hid hK
    clear hK
    dsimp only [encLs]
    gi_wp2
    exact hK'.out
  case body =>
    rintro l1 pre x W hI hlen
    have c0 := hI.bx.cell 0
    have hI' := Lib.hid hI
    clear hI
    have hpl := Lib.hid (ends_len hl'.out pre)
    have hput := Lib.hid (CallsIn.inRound l1 (callsIn_wide (n := 3 - 1 - 1 - 1).2 (put_any e n0 k (bs ++ endsL (pre.map (lnAt l))) (lnAt l x) W hI'.out.fr hk (by have := hI'.out.be.size; omega) (by have := hpl.out; have := lnAt_len hl'.out x; rw [List.length_append]; have h3 : pre.length * 2000011 ≤ 100001 * 2000011 := Nat.mul_le_mul_right _ (by omega); omega))))
    unfold lnAt at hput
    gi_wp2_with fail
    refine hput.out.mono ?_
    rintro e2 W2 ⟨rfl, hf2, hk2, ho2, hb2⟩
    have hf2' := Lib.hid hf2
    have hk2' := Lib.hid hk2
    have hb2' := Lib.hid (hb2 B hB hBk)
    have ho2' := Lib.hid ho2
    clear hf2 hk2 hb2 ho2
    gi_wp2
    refine ⟨ho2'.out.from _, hk2'.out, ?_, hk2'.out.has (.inr (by decide)) (by omega) hI'.out.bx, hI'.out.be.trans hb2'.out⟩
    rw [List.map_append, List.map_singleton, endsL_snoc, ← List.append_assoc]
    exact hf2'.out
  case done =>
    rintro D ys W hD rfl hI hk2
    have hI' := Lib.hid hI
    have hk' := Lib.hid hk2
    clear hI hk2
    gi_wp2
    refine ⟨by simp, .inl ⟨_, _, rfl, run_takeDeferred hk'.out, ?_⟩⟩
    refine ⟨_, results_none rfl _ _ _, rfl, ?_, ?_⟩
    · have := hI'.out.fr
      rw [hnum'.out, lnAt_all] at this
      obtain ⟨v, h1, h2⟩ := this
      refine ⟨v, h1.put_obj (.deferred none) (l := D) (by omega), h2.kept (fun g hg => World.putObj_heap_other (fun e => ?_))⟩
      obtain ⟨_, cs, hh⟩ := h2.own g hg
      have h3 : W.heap[g]? = some (.cells cs 5 (0, 0)) := hh
      have h4 := hk'.out
      rw [e, h4] at h3
      cases h3
    · exact ((hbA.mono (by omega)).trans hI'.out.be).trans ((belowK_b (w := w1) (Nat.le_refl _) W D _ _ (by omega) hk'.out rfl rfl).mono (by omega))
def SentR (B n0 __k : Nat) (_e : Ev) (l : List UInt8) (w : World) (r : Ending) (w' : World) : Prop := ∃ v, r = .returned v ∧ Bs w' n0 v l ∧ Below B w w'
set_option maxRecDepth 100000 in
set_option maxHeartbeats 4000000 in
theorem sent_any (e : Ev) (n0 k B : Nat) (l : List FdT) (g N c : Nat) (A : Option Addr) (cur : Array Value) (w : World) (hE : ∀ W, Below w.heap.size w W → ∀ bP, Has W bP 205 #[.slice A N c] → EnvL W bP g A l N c cur) (hf : FrB w n0 k e []) (hk : k < n0) (hn : n0 ≤ w.heap.size) (hNm : 1 < n0)
    (hg : g ≠ k) (hNk : 1 ≠ k) (hN : N ≤ 100000) (hl : ∀ f ∈ l, f.2.1.length ≤ 1000000 ∧ f.2.2.length ≤ 1000000) (hB : B ≤ n0) (hBk : B ≤ k) :
    Calls Tryd.prog 133 #[.pointer (some ⟨k, 0, none⟩), .slice A N c] w (SentR B n0 k e (endsL (linesOf l)) w) := by
  have hbA : Below w.heap.size w (w.alloc (.cells #[.slice A N c] 205)) := (Below.refl _ _).alloc (Nat.le_refl _) _
  have hj := Lib.hid (join_any e n0 k B [] l w.heap.size g N c A cur (w.alloc (.cells #[.slice A N c] 205)) (hE _ hbA _ (Has.new _ _ _)) (hf.below hbA) hk (by simp; omega) hNm ⟨by show ¬ w.heap.size = k; omega, hg, hNk⟩ hN hl (by simp) hB hBk)
  rw [List.nil_append] at hj
  have hbA' := Lib.hid (hbA.mono (B' := B) (by omega))
  clear hE hf hbA
  have hmf : ∀ (fn : Fn) (first cap : Array Value) (w : World), (Instr.makeFunc fn first cap).run Tryd.prog w = .ok (.func fn first cap) w := fun _ _ _ _ => rfl
  unfold SentR
  go_enter Tryd.func133, Tryd.ntmps133
  go_wp2_with (first
    | (go_at_call 164; (with_reducible refine Calls.mono (lines_any _ _ _ _) ?_); rintro r w2 ⟨rfl, rfl⟩)
    | (go_at_call 162; (with_reducible refine Calls.mono hj.out ?_); rintro r w3 ⟨rfl, hf3, hb3⟩; obtain ⟨v3, h31, h32⟩ := hf3; have c33 := h31.cell 3; unfold frCells at c33; have h32' := Lib.hid h32; have hb3' := Lib.hid hb3; clear h31 h32 hb3))
  go_ret
  exact ⟨_, rfl, h32'.out, hbA'.out.trans hb3'.out⟩
end Go.Proofs.YtlbiniibkbhghaaDoor

namespace Go.Proofs.YtlbiniibkbhghaaDoor
open Go.RowKit Go.Shelf
attribute [local go_sem] Oper.semAt_some

/-! ## encoded, commented -/
theorem bs_nil0 (W : World) (n0 : Nat) : Bs W n0 (.slice none 0 0) [] := ⟨rfl, .inl ⟨rfl, rfl⟩⟩
theorem fields_len {e : Ev} (h : e.1.length + e.2.1.length + e.2.2.length ≤ 65536) : ∀ f ∈ fieldsE e, f.2.1.length ≤ 1000000 ∧ f.2.2.length ≤ 1000000 := by
  intro f hf
  unfold fieldsE at hf
  rcases List.mem_append.1 hf with h1 | h1
  · unfold oneF at h1
    split at h1
    · simp at h1
    · obtain rfl := List.mem_singleton.1 h1
      exact ⟨by simp [idN], by simp only; omega⟩
  · rcases List.mem_append.1 h1 with h1 | h1
    · unfold oneF at h1
      split at h1
      · simp at h1
      · obtain rfl := List.mem_singleton.1 h1
        exact ⟨by simp [eventN], by simp only; omega⟩
    · unfold dataF at h1
      obtain ⟨p, hp, rfl⟩ := List.mem_map.1 h1
      have := partsL_len _ _ hp
      exact ⟨by simp [dataN], by simp only; omega⟩
theorem fields_many {e : Ev} (h : e.1.length + e.2.1.length + e.2.2.length ≤ 65536) : (fieldsE e).length ≤ 70000 := by
  unfold fieldsE dataF
  have h1 : (oneF 5 idN e.1).length ≤ 1 := by unfold oneF; split <;> simp
  have h2 : (oneF 4 eventN e.2.1).length ≤ 1 := by unfold oneF; split <;> simp
  have h3 := partsL_many e.2.2
  simp only [List.length_append, List.length_map]
  omega
theorem env_of {W W' : World} {n0 g c bP : Nat} {A : Option Addr} {cur : Array Value} {l : List FdT} (h : FldsIn W n0 A g cur l) (hb : Below W.heap.size W W') (hx : Has W' bP 205 #[.slice A l.length c]) (hN : NamesT W')
    (hl : ∀ f ∈ l, f.2.1.length ≤ 1000000 ∧ f.2.2.length ≤ 1000000) (hs : ∀ f ∈ l, sayF f = true) : EnvL W' bP g A l l.length c cur :=
  ⟨rfl, hx, fun hn => ⟨(h.1 hn).1, (h.1 hn).2.2.below hb (h.1 hn).2.2.lt⟩, fun k f hk => ⟨h.2 k f hk, (hl f (List.mem_of_getElem? hk)).1, (hl f (List.mem_of_getElem? hk)).2, hs f (List.mem_of_getElem? hk)⟩, hN⟩
def EncR (e : Ev) (w : World) (r : Ending) (w' : World) : Prop :=
  ((rightE e = true ∧ ∃ v, r = .returned v ∧ Bs w' w.heap.size v (bytesE e)) ∨ (rightE e = false ∧ r = refuseE 2)) ∧ Below w.heap.size w w'
structure EvT (w : World) : Prop where
  tab : TabU w
  sg : SgT w
  nm : NamesT w
  mx : MaxT w
theorem EvT.below {w w' : World} (h : EvT w) (hb : Below w.heap.size w w') : EvT w' := ⟨h.tab.below hb, h.sg.below hb, h.nm.below hb, h.mx.below hb⟩
theorem fits_of {e : Ev} (h : rightE e = true) : e.1.length + e.2.1.length + e.2.2.length ≤ 65536 := by
  have := (rightE_of h).1
  unfold fitsE at this
  exact of_decide_eq_true this
set_option maxRecDepth 100000 in
set_option maxHeartbeats 4000000 in
theorem encoded_any (e : Ev) (w : World) (hl : e.1.length ≤ 1099511627776 ∧ e.2.1.length ≤ 1099511627776 ∧ e.2.2.length ≤ 1099511627776) (hT : EvT w) :
    Calls Tryd.prog 127 #[evV e] w (EncR e w) := by
  have hb1 : Below w.heap.size w (w.alloc (.cells (evCells e) 53)) := (Below.refl _ _).alloc (Nat.le_refl _) _
  have hfm := framed_any e (w.alloc (.cells (evCells e) 53)) hl (hT.tab.below hb1) (hT.sg.below hb1)
  obtain ⟨w1, hw1⟩ : ∃ w1, w.alloc (.cells (evCells e) 53) = w1 := ⟨_, rfl⟩
  have hz1 : w.heap.size < w1.heap.size := by rw [← hw1]; simp
  rw [hw1] at hfm hb1
  have hw1' := Lib.hid hw1
  have hb1' := Lib.hid hb1
  have hT1 := Lib.hid (hT.below hb1)
  have hgN := hT1.out.nm.lt
  clear hT hb1 hw1
  unfold evV evCells at *
  unfold EncR
  cases hr : rightE e with
  | true =>
    have hfit := Lib.hid (fits_of hr)
    have hfmY := Lib.hid (hfm.mono (R' := fun r w' => r = .returned (.pointer (some ⟨w1.heap.size + 1, 0, none⟩)) ∧ Has w' (w1.heap.size + 1) 175 (frCells e (.slice none 0 0)) ∧ Below w1.heap.size w1 w') (fun r w' h => by
      rcases h.1 with h1 | h1
      · exact ⟨h1.2.1, h1.2.2, h.2⟩
      · rw [hr] at h1; cases h1.1))
    clear hfm hr
    go_enter Tryd.func127, Tryd.ntmps127
    go_wp2_with fail
    rw [hw1'.out]
    with_reducible refine Calls.mono hfmY.out ?_
    rintro r w2 ⟨rfl, hf2, hb2⟩
    have hf2' := Lib.hid hf2
    have hb2' := Lib.hid hb2
    have hfa := Lib.hid (fields_any e (.slice none 0 0) (w1.heap.size + 1) w2 hf2 hfit.out (hT1.out.nm.below hb2) (hT1.out.mx.below hb2))
    have hk2 := hf2.lt
    clear hf2 hb2 hfmY
    go_wp2_with fail
    with_reducible refine Calls.mono hfa.out ?_
    rintro r w3 ⟨v3, rfl, hv3, hb3⟩
    obtain ⟨A, g, c, cur, rfl, hin⟩ := hv3.shape
    have hpos : 0 < (fieldsE e).length := by unfold fieldsE dataF; have := List.length_pos_iff.2 (partsL_ne e.2.2); simp only [List.length_append, List.length_map]; omega
    have hgk := (hin.1 hpos).2.1
    have hse := Lib.hid (sent_any e w3.heap.size (w1.heap.size + 1) w.heap.size (fieldsE e) g (fieldsE e).length c A cur w3
      (fun W hb bP hx => env_of hin hb hx ((hT1.out.nm.below (hb2'.out.trans (hb3.mono hb2'.out.size))).below hb) (fields_len hfit.out) (fields_say e))
      ⟨_, hf2'.out.below hb3 hf2'.out.lt, bs_nil0 _ _⟩ (Nat.lt_of_lt_of_le hk2 hb3.size) (Nat.le_refl _) (by have := hb2'.out.size; have := hb3.size; omega) (by omega) (by omega) (by have := fields_many hfit.out; omega) (fields_len hfit.out) (by have := hb2'.out.size; have := hb3.size; omega) (by omega))
    have hb3' := Lib.hid hb3
    clear hv3 hin hb3 hfa
    go_wp2_with fail
    with_reducible refine Calls.mono hse.out ?_
    rintro r w4 ⟨v4, rfl, hv4, hb4⟩
    have hv4' := Lib.hid hv4
    have hb4' := Lib.hid hb4
    clear hv4 hb4
    go_wp2
    go_ret
    have hsz : w.heap.size ≤ w3.heap.size := by have := hb2'.out.size; have := hb3'.out.size; omega
    exact ⟨.inl ⟨trivial, _, rfl, hv4'.out.mono hsz⟩, ((hb1'.out.trans (hb2'.out.mono (by omega))).trans (hb3'.out.mono (by have := hb2'.out.size; omega))).trans hb4'.out⟩
  | false =>
    have hfmN := Lib.hid (hfm.mono (R' := fun r w' => r = .panicked [{ v := refuseV 2, recovered := false }] ∧ Below w1.heap.size w1 w') (fun r w' h => by
      rcases h.1 with h1 | h1
      · rw [hr] at h1; cases h1.1
      · exact ⟨h1.2, h.2⟩))
    clear hfm
    go_enter Tryd.func127, Tryd.ntmps127
    go_wp2_with fail
    rw [hw1'.out]
    with_reducible refine Calls.mono hfmN.out ?_
    rintro r w2 ⟨rfl, hb2⟩
    exact ⟨rfl, .inr ⟨trivial, rfl⟩, hb1'.out.trans (hb2.mono (by omega))⟩
def okC (t : List UInt8) : Bool := decide (t.length ≤ 65536) && cleanB t 2
def comL (t : List UInt8) : List UInt8 := 58 :: 32 :: (t ++ [10, 10])
theorem com_lines (t : List UInt8) : endsL (linesOf [(2, [], 32 :: t)]) = comL t := by
  unfold endsL linesOf comL lineF betw
  simp
def CmR (t : List UInt8) (w : World) (r : Ending) (w' : World) : Prop :=
  ((okC t = true ∧ ∃ v, r = .returned v ∧ Bs w' w.heap.size v (comL t)) ∨ (okC t = false ∧ r = refuseE 2)) ∧ Below w.heap.size w w'
set_option maxRecDepth 100000 in
set_option maxHeartbeats 4000000 in
theorem commented_any (t : List UInt8) (w : World) (hl : t.length ≤ 1099511627776) (hT : EvT w) :
    Calls Tryd.prog 85 #[.string ⟨t.toArray⟩] w (CmR t w) := by
  have hb1 : Below w.heap.size w (w.alloc (.cells #[.string ⟨t.toArray⟩] 9)) := (Below.refl _ _).alloc (Nat.le_refl _) _
  have hmf := mustFit_any w.heap.size [t] 1 1 #[.string ⟨t.toArray⟩] (w.alloc (.cells #[.string ⟨t.toArray⟩] 9)) rfl (by omega) (Has.new _ _ _) (fun j y hj => by
    match j, hj with
    | 0, h => obtain rfl : t = y := by simpa using h
              exact ⟨rfl, hl⟩
    | j + 1, h => simp at h)
  rw [show totalL [t] = t.length by simp [totalL]] at hmf
  have hcl := clean_any t 2 (w.alloc (.cells #[.string ⟨t.toArray⟩] 9)) (by omega) hl (hT.tab.below hb1) (hT.sg.below hb1)
  have hT1 := Lib.hid (hT.below hb1)
  have hb1' := Lib.hid hb1
  clear hT hb1
  unfold CmR
  by_cases hf : t.length ≤ 65536
  · have hmf' := Lib.hid (hmf.mono (R' := fun r w' => r = .returned (.tuple #[]) ∧ w' = w.alloc (.cells #[.string ⟨t.toArray⟩] 9)) (fun r w' h => ⟨by rcases h.1 with h | h; exact h.2; exact absurd h.1 (by omega), h.2⟩))
    clear hmf
    cases hc : cleanB t 2 with
    | true =>
      have hok : okC t = true := by unfold okC; rw [decide_eq_true hf, hc]; rfl
      have hcl' := Lib.hid (hcl.mono (R' := fun r w' => r = .returned (.tuple #[]) ∧ Below (w.alloc (.cells #[.string ⟨t.toArray⟩] 9)).heap.size (w.alloc (.cells #[.string ⟨t.toArray⟩] 9)) w') (fun r w' h => ⟨by rcases h.1 with h | h; exact h.2; (have := h.1; rw [hc] at this; cases this), h.2⟩))
      rw [hok]
      clear hcl hc hok
      go_enter Tryd.func85, Tryd.ntmps85
      go_wp2_with (first
        | (go_at_call 131; (with_reducible refine Calls.mono hmf'.out ?_); rintro r w2 ⟨rfl, rfl⟩)
        | (go_at_call 132; (with_reducible refine Calls.mono hcl'.out ?_); rintro r w3 ⟨rfl, hb3⟩; have hb3' := Lib.hid hb3; clear hb3))
      have hcat : (⟨#[32]⟩ : ByteArray) ++ ⟨t.toArray⟩ = ⟨((32 : UInt8) :: t).toArray⟩ := by
        rw [ByteArray.ext_iff]
        simp
      rw [hcat]
      have hA : Has w3 w.heap.size 9 #[.string ⟨t.toArray⟩] := (Has.new w 9 #[.string ⟨t.toArray⟩]).below hb3'.out (by simp)
      have hwl := hA.lt
      have hf5 := ((Has.new w3 175 (frCells ([], [], []) (.slice none 0 0))).alloc (.cells (fldC (2, [], 32 :: t)).toArray 40))
      have hg5 := Has.new (w3.alloc (.cells (frCells ([], [], []) (.slice none 0 0)) 175)) 40 (fldC (2, [], 32 :: t)).toArray
      have hb5 : Below w3.heap.size w3 ((w3.alloc (.cells (frCells ([], [], []) (.slice none 0 0)) 175)).alloc (.cells (fldC (2, [], 32 :: t)).toArray 40)) := ((Below.refl _ _).alloc (Nat.le_refl _) _).alloc (by simp) _
      rw [World.size_alloc] at hg5
      obtain ⟨w5, hw5⟩ : ∃ w5, (w3.alloc (.cells (frCells ([], [], []) (.slice none 0 0)) 175)).alloc (.cells (fldC (2, [], 32 :: t)).toArray 40) = w5 := ⟨_, rfl⟩
      have hz5 : w3.heap.size + 1 < w5.heap.size := by rw [← hw5]; simp
      rw [hw5] at hf5 hg5 hb5
      have hT5 := (hT1.out.below hb3'.out).below hb5
      have hgN := hT5.nm.lt
      have hgN3 := (hT1.out.below hb3'.out).nm.lt
      have hse := sent_any ([], [], []) w5.heap.size w3.heap.size w.heap.size [(2, [], 32 :: t)] (w3.heap.size + 1) 1 1 (some ⟨w3.heap.size + 1, 0, none⟩) (fldC (2, [], 32 :: t)).toArray w5
        (fun W hb bP hx => env_of (n0 := w3.heap.size) (l := [(2, [], 32 :: t)]) ⟨fun _ => ⟨rfl, by omega, hg5⟩, fun i x h => by
          match i, h with
          | 0, h => obtain rfl : ((2 : Int), ([] : List UInt8), 32 :: t) = x := by simpa using h
                    exact ⟨rfl, rfl, rfl⟩
          | i + 1, h => simp at h⟩ hb hx (hT5.nm.below hb) (fun f hf1 => by rw [List.mem_singleton.1 hf1]; simp; omega) (fun f hf1 => by rw [List.mem_singleton.1 hf1]; rfl))
        ⟨_, hf5, bs_nil0 _ _⟩ (by omega) (Nat.le_refl _) (by omega) (by omega) (by omega) (by omega) (fun f hf1 => by rw [List.mem_singleton.1 hf1]; simp; omega) (by omega) (by omega)
      rw [com_lines] at hse
      rw [show (w3.alloc (.cells #[.string ⟨#[]⟩, .string ⟨#[]⟩, .string ⟨#[]⟩, .slice none 0 0] 175)).alloc (.cells #[.int .i64 2, .string ⟨#[]⟩, .string ⟨((32 : UInt8) :: t).toArray⟩] 40) = w5 from hw5]
      with_reducible refine Calls.mono hse ?_
      rintro r w6 ⟨v6, rfl, hv6, hb6⟩
      have hv6' := Lib.hid hv6
      have hb6' := Lib.hid hb6
      have hbx := Lib.hid ((hb1'.out.trans (hb3'.out.mono (by simp))).trans (hb5.mono (by omega)))
      clear hv6 hb6 hse hb5 hf5 hg5 hA
      go_wp2
      go_ret
      exact ⟨.inl ⟨trivial, _, rfl, hv6'.out.mono (by omega)⟩, hbx.out.trans hb6'.out⟩
    | false =>
      have hok : okC t = false := by unfold okC; rw [hc]; simp
      have hcl' := Lib.hid (hcl.mono (R' := fun r w' => r = .panicked [{ v := refuseV 2, recovered := false }] ∧ Below (w.alloc (.cells #[.string ⟨t.toArray⟩] 9)).heap.size (w.alloc (.cells #[.string ⟨t.toArray⟩] 9)) w') (fun r w' h => ⟨by rcases h.1 with h | h; (have := h.1; rw [hc] at this; cases this); exact h.2, h.2⟩))
      rw [hok]
      clear hcl hc hok
      go_enter Tryd.func85, Tryd.ntmps85
      go_wp2_with (first
        | (go_at_call 131; (with_reducible refine Calls.mono hmf'.out ?_); rintro r w2 ⟨rfl, rfl⟩)
        | (go_at_call 132; (with_reducible refine Calls.mono hcl'.out ?_); rintro r w3 ⟨rfl, hb3⟩; have hb3' := Lib.hid hb3; clear hb3))
      exact ⟨rfl, .inr ⟨trivial, rfl⟩, hb1'.out.trans (hb3'.out.mono (by simp))⟩
  · have hok : okC t = false := by unfold okC; rw [decide_eq_false hf]; rfl
    have hmf' := Lib.hid (hmf.mono (R' := fun r w' => r = .panicked [{ v := refuseV 2, recovered := false }] ∧ w' = w.alloc (.cells #[.string ⟨t.toArray⟩] 9)) (fun r w' h => ⟨by rcases h.1 with h | h; exact absurd h.1 (by omega); exact h.2, h.2⟩))
    rw [hok]
    clear hmf hcl hok
    go_enter Tryd.func85, Tryd.ntmps85
    go_wp2_with (go_at_call 131; (with_reducible refine Calls.mono hmf'.out ?_); rintro r w2 ⟨rfl, rfl⟩)
    exact ⟨rfl, .inr ⟨trivial, rfl⟩, hb1'.out⟩
end Go.Proofs.YtlbiniibkbhghaaDoor
