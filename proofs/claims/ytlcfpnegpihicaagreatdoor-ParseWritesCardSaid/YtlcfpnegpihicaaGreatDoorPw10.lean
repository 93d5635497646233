import Derived.Test.YtlcfpnegpihicaaGreatDoorPw6
import Derived.KernelRfl
import Derived.WalkMore
import Derived.Laws.EntriesVeiled
import Derived.BigRegionIn
import Derived.Shelf.Abstract
import Derived.RangeFuncLeaves
import Derived.Test.YtlcfpnegpihicaaGreatDoorPw9
import Derived.BigRegion
import Derived.Maps.AppendAt
import Derived.Deep.RegionHeld3
namespace Go.Proofs.YtlcfpnegpihicaaGreatDoor
open Go.RowKit

/-! ## Pieces, one behind the other; what waits -/
/-- So many pieces in a row, each read somewhere. -/
def Pieces (W : World) (P : Nat) (vs : List Value) (xs : List (List UInt8)) (S : Nat → Prop) : Prop :=
  Has W P 22 vs.toArray ∧ vs.length = xs.length ∧ ∀ (i : Nat) (x : List UInt8), xs[i]? = some x → ∃ A c, vs[i]? = some (Value.slice A x.length c) ∧ Rd W S A x
theorem flatten_take_succ {xs : List (List UInt8)} {k : Nat} {x : List UInt8} (h : xs[k]? = some x) : (xs.take (k + 1)).flatten = (xs.take k).flatten ++ x := by
  obtain ⟨hk, rfl⟩ := List.getElem?_eq_some_iff.1 h
  rw [List.take_succ_eq_append_getElem hk, List.flatten_append, List.flatten_cons, List.flatten_nil, List.append_nil]
theorem flatten_take_le (xs : List (List UInt8)) (k : Nat) : (xs.take k).flatten.length ≤ xs.flatten.length := by
  conv => rhs; rw [← List.take_append_drop k xs, List.flatten_append, List.length_append]
  omega
def Together (l : List UInt8) (w : World) (e : Ending) (w' : World) : Prop := ∃ v, e = .returned v ∧ Bs w' w.heap.size v l ∧ Below w.heap.size w w'
set_option maxRecDepth 100000 in
set_option maxHeartbeats 1000000 in
theorem together_any (P n c : Nat) (vs : List Value) (xs : List (List UInt8)) (w : World) (hn : n = xs.length) (hp : Pieces w P vs xs (· < w.heap.size)) (hs : xs.flatten.length ≤ 140737488355328) (hn9 : n ≤ 1000) :
    Calls Tryz.prog 139 #[.slice (some ⟨P, 0, none⟩) n c] w (Together xs.flatten w) := by
  subst hn
  go_enter Tryz.func139, Tryz.ntmps139
  go_wp2
  go_loopw [3, 8] (fun v i wr => ∃ k : Nat, k ≤ xs.length ∧ i = .int .i64 (k : Int) ∧ Bs wr w.heap.size v (xs.take k).flatten ∧ Below w.heap.size w wr) (fun _ i _ => xs.length - (intOf i).toNat)
  case atStart => exact ⟨0, Nat.zero_le _, rfl, bs_nil _ _, Below.refl _ _⟩
  case round =>
    obtain ⟨k, hk, rfl, hv, hb⟩ := hrel
    have hb' := Lib.hid hb
    have hv' := Lib.hid hv
    by_cases hlt : k < xs.length
    · obtain ⟨x, hx⟩ : ∃ x, xs[k]? = some x := ⟨xs[k], List.getElem?_eq_getElem hlt⟩
      obtain ⟨A, c1, hvk, hr⟩ := hp.2.2 k x hx
      have hh := hp.1.below hb hp.1.lt
      have hc : wr.cell? ⟨P, k, none⟩ = some (.slice A x.length c1) := by rw [hh.cell]; simpa using hvk
      have hr2 : Rd wr (fun _ => True) A x := (hr.kept (Kept.below hb (fun _ h => h))).mono (fun _ _ => trivial)
      have hle := flatten_take_le xs (k + 1)
      rw [flatten_take_succ hx, List.length_append] at hle
      have hnb := hb.size
      have hp' := Lib.hid hp
      have hx' := Lib.hid hx
      obtain ⟨m, hm⟩ : ∃ m, x.length = m := ⟨_, rfl⟩
      rw [hm] at hc
      have hm' := Lib.hid hm.symm
      have hs2 := Lib.hid (Nat.le_trans hle hs)
      have hr2' := Lib.hid hr2
      have hki : (k : Int) < (xs.length : Int) := by omega
      clear hv hb hr hr2 hvk hh hle hs hm hp hx
      go_wp2_with (at_builtin; refine wpList_append_rd rfl _ _ rfl rfl hv'.out (fun _ => True) A x m c1 hm'.out rfl hr2'.out hs2.out hnb ?_; intro v2 w2 hv2 hg2; have hv2' := Lib.hid hv2; have hg2' := Lib.hid hg2; clear hv2 hg2)
      refine ⟨⟨k + 1, by omega, by go_num, ?_, hb'.out.grown hg2'.out hnb (fun g e => (hv'.out.own g e).1)⟩, by simp [intOf]; omega⟩
      rw [flatten_take_succ hx'.out]
      exact hv2'.out
    · obtain rfl : k = xs.length := by omega
      clear hv hb
      go_wp2
      go_ret
      refine ⟨_, rfl, ?_, hb'.out⟩
      have := hv'.out
      rw [List.take_of_length_le (Nat.le_refl _)] at this
      exact this

/-- A decoder, and which bytes wait. -/
def Dec (W : World) (d : Nat) (ws : List UInt8) : Prop :=
  ∃ a b c : UInt8, ws.length ≤ 3 ∧ ws = [a, b, c].take ws.length ∧ Has W d 208 #[byt a, byt b, byt c, .int .i64 (ws.length : Int), .bool true]
section
variable {W W' : World} {d : Nat} {ws : List UInt8}
theorem Dec.lt (h : Dec W d ws) : d < W.heap.size := by obtain ⟨a, b, c, _, _, h⟩ := h; exact h.lt
theorem Dec.len (h : Dec W d ws) : ws.length ≤ 3 := by obtain ⟨a, b, c, h, _⟩ := h; exact h
theorem Dec.kept (h : Dec W d ws) (k : W'.heap[d]? = W.heap[d]?) : Dec W' d ws := by obtain ⟨a, b, c, h1, h2, h3⟩ := h; exact ⟨a, b, c, h1, h2, k.trans h3⟩
theorem Dec.below (h : Dec W d ws) (hb : Below W.heap.size W W') : Dec W' d ws := h.kept (hb.block d h.lt)
theorem Dec.count (h : Dec W d ws) : W.cell? ⟨d, 3, none⟩ = some (.int .i64 (ws.length : Int)) := by obtain ⟨a, b, c, _, _, h⟩ := h; exact h.cell 3
theorem Dec.made (h : Dec W d ws) : W.cell? ⟨d, 4, none⟩ = some (.bool true) := by obtain ⟨a, b, c, _, _, h⟩ := h; exact h.cell 4
theorem Dec.rd (h : Dec W d ws) : Rd W (· = d) (some ⟨d, 0, none⟩) ws := by
  obtain ⟨a, b, c, h1, h2, h3⟩ := h
  intro _
  refine ⟨_, rfl, rfl, fun j u hu => ?_⟩
  rw [add_zero_, Nat.zero_add, h3.cell]
  rw [h2] at hu
  rw [byts_take, List.getElem?_take] at hu
  split at hu
  · have hj : j < 3 := by omega
    have : j = 0 ∨ j = 1 ∨ j = 2 := by omega
    rcases this with rfl | rfl | rfl <;> simpa [byts] using hu
  · cases hu
end
theorem none_no (d : Nat) (ws : List UInt8) (w : World) (h : Dec w d ws) : Calls Tryz.prog 116 #[.pointer (some ⟨d, 0, none⟩)] w fun e w' => e = .returned (.bool false) ∧ w = w' := by
  have c4 := h.made
  clear h
  go_enter Tryz.func116, Tryz.ntmps116
  go_wp2
  go_ret
  exact ⟨rfl, rfl⟩
theorem new_any (w : World) : Calls Tryz.prog 131 #[] w fun e w' => e = .returned (.pointer (some ⟨w.heap.size, 0, none⟩)) ∧ w' = w.alloc (.cells #[.int .u8 0, .int .u8 0, .int .u8 0, .int .i64 0, .bool true] 208) := by
  go_enter Tryz.func131, Tryz.ntmps131
  go_wp2
  go_ret
  exact ⟨rfl, rfl⟩
theorem dec_new (w : World) : Dec (w.alloc (.cells #[.int .u8 0, .int .u8 0, .int .u8 0, .int .i64 0, .bool true] 208)) w.heap.size [] := ⟨0, 0, 0, by simp, by simp, Has.new _ _ _⟩

/-- What a list of what waits is. -/
def ListOf (ws : List UInt8) (w : World) (e : Ending) (w' : World) : Prop := ∃ v, e = .returned v ∧ Bs w' w.heap.size v ws ∧ Below w.heap.size w w'
set_option maxRecDepth 100000 in
set_option maxHeartbeats 1000000 in
theorem list_any (d : Nat) (ws : List UInt8) (w : World) (h : Dec w d ws) : Calls Tryz.prog 140 #[.pointer (some ⟨d, 0, none⟩)] w (ListOf ws w) := by
  have c3 := h.count
  have hlen := h.len
  have hlt := h.lt
  have h' := Lib.hid h
  obtain ⟨m, hm⟩ : ∃ m, ws.length = m := ⟨_, rfl⟩
  rw [hm] at c3 hlen
  have hm' := Lib.hid hm
  have c3d : w.drew.cell? ⟨d, 3, none⟩ = some (.int .i64 (m : Int)) := c3
  have i0 : (0 : Int) ≤ (m : Int) := by omega
  have i1 : (m : Int) ≤ 3 := by omega
  clear h hm
  go_enter Tryz.func140, Tryz.ntmps140
  go_wp2
  have hbw : Below w.heap.size w (w.alloc (.cells #[.slice (some ⟨d, 0, none⟩) m m] 22)).drew := below_draws ((Below.refl w.heap.size w).alloc (Nat.le_refl _) _) 1
  have ht := together_any w.heap.size 1 1 [.slice (some ⟨d, 0, none⟩) m m] [ws] (w.alloc (.cells #[.slice (some ⟨d, 0, none⟩) m m] 22)).drew rfl (by
    refine ⟨(Has.new w _ _).drew, rfl, fun i x hi => ?_⟩
    cases i with
    | zero =>
      obtain rfl : ws = x := by simpa using hi
      refine ⟨_, m, by rw [hm'.out]; rfl, (h'.out.below hbw).rd.mono (fun b hb => ?_)⟩
      subst hb; exact (h'.out.below hbw).lt
    | succ i => simp at hi) (by have := hm'.out; simp; omega) (by omega)
  simp only [List.flatten_cons, List.flatten_nil, List.append_nil] at ht
  have ht' := Lib.hid ht
  have hbw' := Lib.hid hbw
  have hkeep := (hbw.cell (p := ⟨d, 3, none⟩) hlt).trans c3
  have hltw := Nat.lt_of_lt_of_le hlt hbw.size
  clear ht hbw
  go_region_held3 (fun w' => w'.cell? ⟨d, 3, none⟩ = some (.int .i64 (m : Int))) (first | exact c3d | exact hkeep | exact hS2)
    (first | (go_at_call 139; refine ht'.out.mono ?_; rintro e w2 ⟨v, rfl, hv2, hb2⟩; have hv2' := Lib.hid hv2; have hb2' := Lib.hid hb2; have hS2 := (hb2.cell (p := ⟨d, 3, none⟩) hltw).trans hkeep; clear hv2 hb2))
  go_wp2
  go_ret
  exact ⟨v, rfl, hv2'.out.mono hbw'.out.size, hbw'.out.trans (hb2'.out.mono hbw'.out.size)⟩

/-! ## keep -/
theorem goInt_nat (n : Nat) : goInt n = .int .i64 (n : Int) := rfl
/-- Three bytes of which the first ones are set. -/
theorem three_set (a b c : UInt8) (t : List UInt8) (ht : t.length ≤ 3) (x y : Value) : ∃ a' b' c' : UInt8, t = [a', b', c'].take t.length ∧
    (List.take 0 (#[byt a, byt b, byt c, x, y] : Array Value).toList ++ Lib.byteCells t ++ List.drop (0 + t.length) (#[byt a, byt b, byt c, x, y] : Array Value).toList).toArray = #[byt a', byt b', byt c', x, y] := by
  match t, ht with
  | [], _ => exact ⟨a, b, c, rfl, rfl⟩
  | [p], _ => exact ⟨p, b, c, rfl, rfl⟩
  | [p, q], _ => exact ⟨p, q, c, rfl, rfl⟩
  | [p, q, r], _ => exact ⟨p, q, r, rfl, rfl⟩
  | _ :: _ :: _ :: _ :: _, h => simp at h
theorem keep_copy (d : Nat) (ws t : List UInt8) (s : ByteArray) (w : World) (h : Dec w d ws) (hs : s.data.toList = t) (ht : t.length ≤ 3) (ty : TypeId) :
    ∃ w1, (Builtin.copy_ #[22, 9] ty #[.slice (some ⟨d, 0, none⟩) 3 3, .string s]).run Tryz.prog w = .ok (.int .i64 (t.length : Int)) w1 ∧
      (w1.cell? ⟨d, 3, none⟩ = some (.int .i64 (ws.length : Int)) ∧ w1.frozen? ⟨d, 3, none⟩ = false) ∧ Dec (w1.setCell ⟨d, 3, none⟩ (.int .i64 (t.length : Int))) d t ∧ Only d w (w1.setCell ⟨d, 3, none⟩ (.int .i64 (t.length : Int))) := by
  obtain ⟨a, b, c, h1, h2, h3⟩ := h
  have hsz : s.size = t.length := by rw [← hs]; simp only [Array.length_toList]; rfl
  have hrun := Lib.run_copy_row_string (P := Tryz.prog) w 22 9 ty 5 d 0 3 3 s #[byt a, byt b, byt c, .int .i64 (ws.length : Int), .bool true] 208 Tryz.underlying22 info1 h3 (by omega) (by simp; omega)
  obtain ⟨a', b', c', e1, e2⟩ := three_set a b c t ht (.int .i64 (ws.length : Int)) (.bool true)
  rw [hs, hsz, e2, goInt_nat] at hrun
  have hh : Has (w.setRow d #[byt a', byt b', byt c', .int .i64 (ws.length : Int), .bool true]) d 208 #[byt a', byt b', byt c', .int .i64 (ws.length : Int), .bool true] := by
    have := setRow_heap w d _ #[byt a', byt b', byt c', .int .i64 (ws.length : Int), .bool true] _ _ h3
    unfold Has
    simpa using this
  refine ⟨_, hrun, ⟨hh.cell 3, hh.free 3⟩, ⟨a', b', c', ht, e1, ?_⟩, (only_setRow d w _).trans (only_setCell d 3 _ _)⟩
  have := hh.put 3 (.int .i64 (t.length : Int))
  simpa using this
section
variable {w : World} {ops : Array Oper} {rest : List Oper} {o : Oper} {a : Act} {Q : Exit → Act → World → Prop}
theorem wpList_copy_keep (hgd : o.guard = none) (x y : Operand) (ho : o.op = .call { callee := .builtin .copy, args := #[x, y], argTypes := #[22, 9] })
    (d : Nat) (ws t : List UInt8) (s : ByteArray) (hx : a.eval x = .slice (some ⟨d, 0, none⟩) 3 3) (hy : a.eval y = .string s) (hd : Dec w d ws) (hs : s.data.toList = t) (ht : t.length ≤ 3)
    (h : ∀ w1, (w1.cell? ⟨d, 3, none⟩ = some (.int .i64 (ws.length : Int)) ∧ w1.frozen? ⟨d, 3, none⟩ = false) → Dec (w1.setCell ⟨d, 3, none⟩ (.int .i64 (t.length : Int))) d t ∧ Only d w (w1.setCell ⟨d, 3, none⟩ (.int .i64 (t.length : Int))) → wpList Tryz.prog ops Q rest (a.put o.dst (.int .i64 (t.length : Int))) w1) :
    wpList Tryz.prog ops Q (o :: rest) a w := by
  refine wpList_plain hgd fun K hK => ?_
  obtain ⟨w1, hrun, h2, h3⟩ := keep_copy d ws t s w hd hs ht o.type
  unfold Oper.wp execOp
  simp only [ho, resolve, invoke, builtin, Sem.run_bind, Sem.run_pure, Result.andThen_ok, List.map_toArray, List.map_cons, List.map_nil, hx, hy, hrun]
  exact hK _ _ (h w1 h2 h3)
end
set_option maxHeartbeats 1000000 in
theorem keep_any (d : Nat) (ws t : List UInt8) (s : ByteArray) (w : World) (h : Dec w d ws) (hs : s.data.toList = t) (ht : t.length ≤ 3) :
    Calls Tryz.prog 141 #[.pointer (some ⟨d, 0, none⟩), .string s] w fun e w' => (∃ v, e = .returned v) ∧ Dec w' d t ∧ Only d w w' := by
  have h' := Lib.hid h
  have hs' := Lib.hid hs
  have ht' := Lib.hid ht
  clear h hs ht
  go_enter Tryz.func141, Tryz.ntmps141
  go_wp2_with (refine wpList_copy_keep rfl _ _ rfl d ws t s rfl rfl h'.out hs'.out ht'.out ?_; rintro w1 ⟨c3, f3⟩ hd; have hd' := Lib.hid hd; clear hd)
  go_end0
  exact ⟨⟨_, rfl⟩, hd'.out⟩
end Go.Proofs.YtlcfpnegpihicaaGreatDoor

namespace Go.Proofs.YtlcfpnegpihicaaGreatDoor
open Go.RowKit Go.Shelf
attribute [local go_sem] Oper.semAt_some
attribute [local go_sem] wide_fn wide_depth wide_round

/-! ## A range over a function, its variable in a box, whose ways out meet -/
/-- But for the blocks of which S holds, and what is new, the world is as it was. -/
structure Chg (S : Nat → Prop) (w w' : World) : Prop where
  os : w'.os = w.os
  tape : w'.tape = w.tape
  output : w'.output = w.output
  size : w.heap.size ≤ w'.heap.size
  block : ∀ k, k < w.heap.size → ¬ S k → w'.heap[k]? = w.heap[k]?
section
variable {S : Nat → Prop} {a b c : World}
theorem Chg.refl (S : Nat → Prop) (w : World) : Chg S w w := ⟨rfl, rfl, rfl, Nat.le_refl _, fun _ _ _ => rfl⟩
theorem Chg.trans (h : Chg S a b) (k : Chg S b c) : Chg S a c :=
  ⟨k.os.trans h.os, k.tape.trans h.tape, k.output.trans h.output, Nat.le_trans h.size k.size, fun i hi h1 => (k.block i (Nat.lt_of_lt_of_le hi h.size) h1).trans (h.block i hi h1)⟩
theorem Chg.of_below (h : Below a.heap.size a b) : Chg S a b := ⟨h.os, h.tape, h.output, h.size, fun k hk _ => h.block k hk⟩
theorem Chg.mono {S' : Nat → Prop} (h : Chg S a b) (k : ∀ i, i < a.heap.size → S i → S' i) : Chg S' a b := ⟨h.os, h.tape, h.output, h.size, fun i hi hn => h.block i hi (fun hs => hn (k i hi hs))⟩
theorem Chg.has {k : Nat} {t : TypeId} {cs : Array Value} (h : Chg S a b) (hk : ¬ S k) (hh : Has a k t cs) : Has b k t cs := (h.block k hh.lt hk).trans hh
theorem Chg.drewN (h : Chg S a b) (q : Nat) : Chg S a (b.drewN q) := ⟨h.os, h.tape, h.output, h.size, h.block⟩
theorem Chg.only {g : Nat} (h : Only g a b) (hg : S g) : Chg S a b := ⟨h.os, h.tape, h.output, by rw [h.size]; exact Nat.le_refl _, fun k _ hk => h.block k (fun e => hk (e ▸ hg))⟩
theorem Chg.below {B : Nat} (h : Chg S a b) (hS : ∀ k, S k → B ≤ k) (hB : B ≤ a.heap.size) : Below B a b := ⟨h.os, h.tape, h.output, h.size, fun k hk => h.block k (by omega) (fun hs => by have := hS k hs; omega)⟩
theorem Chg.row {w : World} {row : Option Nat} {B : Nat} (h : Chg S w a) (hg : a.grownBy b row) (hr : ∀ r, row = some r → B ≤ r ∧ ∃ o : Obj, a.heap[r]? = some o ∧ o.isCells = false) (hB : w.heap.size ≤ B) : Chg S w b :=
  ⟨hg.os.trans h.os, hg.tape.trans h.tape, hg.output.trans h.output, Nat.le_trans h.size hg.size, fun k hk hn => (hg.block k (Nat.lt_of_lt_of_le hk h.size) (fun e => by have := (hr k e.symm).1; omega)).trans (h.block k hk hn)⟩
theorem Chg.putObj (h : Chg S a b) (D : Nat) (o : Obj) (hD : a.heap.size ≤ D) : Chg S a (b.putObj D o) :=
  ⟨h.os, h.tape, h.output, by simp [World.putObj]; exact h.size, fun k hk hn => (World.putObj_heap_other (by omega)).trans (h.block k hk hn)⟩
theorem Dec.chg {d : Nat} {ws : List UInt8} (h : Dec a d ws) (k : Chg S a b) (hd : ¬ S d) : Dec b d ws := h.kept (k.block d h.lt hd)
theorem Dec.row {d : Nat} {ws : List UInt8} {row : Option Nat} {B : Nat} (h : Dec a d ws) (hg : a.grownBy b row) (hr : ∀ r, row = some r → B ≤ r ∧ ∃ o : Obj, a.heap[r]? = some o ∧ o.isCells = false) : Dec b d ws := by
  obtain ⟨x, y, z, h1, h2, h3⟩ := h
  exact ⟨x, y, z, h1, h2, h3.row hg hr⟩
theorem Bs.row {n0 : Nat} {v : Value} {l : List UInt8} {row : Option Nat} {B : Nat} (h : Bs a n0 v l) (hg : a.grownBy b row) (hr : ∀ r, row = some r → B ≤ r ∧ ∃ o : Obj, a.heap[r]? = some o ∧ o.isCells = false) : Bs b n0 v l :=
  h.kept fun g e => by
    obtain ⟨_, cs, hh⟩ := h.own g e
    exact (hh.row hg hr).trans hh.symm
end
/-- What a call wrote that wrote one block and a row of its own. -/
theorem others_only {g : Nat} {w w' : World} {t : TypeId} {cs : Array Value} (h : Only g w w') (hh : Has w g t cs) : KeepsOthers w w' := ⟨by rw [h.size]; exact Nat.le_refl _, fun k o hk hc => (h.block k (fun e => by
  subst e
  have hh' : w.heap[k]? = some (.cells cs t (0, 0)) := hh
  rw [hh'] at hk
  rw [← Option.some.inj hk] at hc
  cases hc)).trans hk⟩
theorem others_grown {w w' : World} {n0 : Nat} {v : Value} {l : List UInt8} (h : Bs w n0 v l) (hg : w.grownBy w' v.ownBlock) : KeepsOthers w w' := ⟨hg.size, fun k o hk hc => (hg.block k (Array.getElem?_eq_some_iff.1 hk).1 (fun e => by
  obtain ⟨_, cs, hh⟩ := h.own k e.symm
  have hh' : w.heap[k]? = some (.cells cs 5 (0, 0)) := hh
  rw [hh'] at hk
  rw [← Option.some.inj hk] at hc
  cases hc)).trans hk⟩

theorem Has.apart {W : World} {k j : Nat} {t t' : TypeId} {cs cs' : Array Value} (h : Has W k t cs) (h' : Has W j t' cs') (hne : t ≠ t') : k ≠ j := fun e => by
  subst e
  unfold Has at h h'
  rw [h] at h'
  injection h' with h'
  injection h' with _ h'
  exact hne h'
theorem has_grown {w w2 : World} {n1 T : Nat} {v : Value} {l : List UInt8} {t : TypeId} {cs : Array Value} (hv : Bs w n1 v l) (hg : w.grownBy w2 v.ownBlock) (hT : Has w T t cs) (ht : t ≠ 5) : Has w2 T t cs :=
  (hg.block T hT.lt (fun e => by
    obtain ⟨_, cs', hh⟩ := hv.own T e.symm
    exact hT.apart hh ht rfl)).trans hT

/-! ## A text is told -/
def Tell (T n1 : Nat) (l : List UInt8) (w : World) (w' : World) : Prop :=
  (∃ v, Has w' T 22 #[v] ∧ Bs w' n1 v l) ∧ Chg (fun k => k = T ∨ n1 ≤ k) w w' ∧ KeepC n1 (· = T) w w' ∧ KeepsOthers w w'
theorem tell_of {T n1 : Nat} {v v2 : Value} {l l2 : List UInt8} {w w2 : World} (hT : Has w T 22 #[v]) (hv : Bs w n1 v l) (hv2 : Bs w2 n1 v2 l2) (hg : w.grownBy w2 v.ownBlock) : Tell T n1 l2 w (w2.setCell ⟨T, 0, none⟩ v2) := by
  have hT2 := has_grown hv hg hT (by decide)
  have hc : Chg (fun k => k = T ∨ n1 ≤ k) w w2 := ⟨hg.os, hg.tape, hg.output, hg.size, fun k hk hn => hg.block k hk (fun e => hn (.inr (hv.own k e.symm).1))⟩
  refine ⟨⟨v2, by simpa using hT2.put 0 v2, hv2.kept fun g e => ?_⟩, hc.trans (.only (only_setCell T 0 w2 v2) (.inl rfl)), KeepC.setCell (p := ⟨T, 0, none⟩) (S := (· = T)) ((KeepC.refl _ _ _).grown hg hv.own) rfl _, (others_grown hv hg).trans (KeepsOthers.setCell _ _ _)⟩
  obtain ⟨_, cs, hh⟩ := hv2.own g e
  exact Below.heap_setCell w2 ⟨T, 0, none⟩ v2 g (hh.apart hT2 (by decide))
theorem tell_any (T n1 : Nat) (v : Value) (l : List UInt8) (s : ByteArray) (w : World) (hT : Has w T 22 #[v]) (hv : Bs w n1 v l) (hn : n1 ≤ w.heap.size) (hs : l.length + s.size ≤ 140737488355328) :
    Calls Tryz.prog 138 #[.string s, .pointer (some ⟨T, 0, none⟩)] w fun e w' => (∃ u, e = .returned u) ∧ Tell T n1 (l ++ s.data.toList) w w' := by
  have c0 := hT.cell 0
  have hT' := Lib.hid hT
  have hv' := Lib.hid hv
  have hs' := Lib.hid hs
  clear hT hv hs
  go_enter Tryz.func138, Tryz.ntmps138
  go_wp2_with (at_builtin; refine wpList_append_text rfl _ _ rfl rfl hv'.out s rfl hs'.out hn ?_; intro v2 w2 hv2 hg2; obtain ⟨A2, c2, hve, _⟩ := hv2.shape; obtain ⟨m2, hm2⟩ : ∃ m, (l ++ s.data.toList).length = m := ⟨_, rfl⟩; rw [hm2] at hve; subst hve; clear hm2; have hv2' := Lib.hid hv2; have hg2' := Lib.hid hg2; have hT2 := has_grown hv'.out hg2 hT'.out (by decide); have c1 := hT2.cell 0; have f1 := hT2.free 0; clear hv2 hg2 hT2)
  go_end0
  exact ⟨⟨_, rfl⟩, tell_of hT'.out hv'.out hv2'.out hg2'.out⟩

/-! ## Write -/
theorem tab_ne {w : World} {d : Nat} {ws : List UInt8} (hT : TabU w) (hd : Dec w d ws) : 6 ≠ d := by
  obtain ⟨t, cs, h1, h2⟩ := hT
  obtain ⟨a, b, c, _, _, h⟩ := hd
  rintro rfl
  have h1' : w.heap[6]? = some (.cells cs t (0, 0)) := h1
  have h' : w.heap[6]? = some (.cells _ _ (0, 0)) := h
  rw [h'] at h1'
  injection h1' with h1'
  injection h1' with h1' _ _
  have := h2 35 (.int .i64 3) rfl
  rw [← h1'] at this
  cases this
section
variable {w W : World} {z d n1 B : Nat} {s : ByteArray} {ws tl : List UInt8}
/-- What lies while a text is gone over: the decoder's box, what was told, who tells it, the text, the decoder. -/
def WrM (w : World) (d n1 B : Nat) (s : ByteArray) (ws tl : List UInt8) (W : World) : Prop :=
  Has W w.heap.size 161 #[.pointer (some ⟨d, 0, none⟩)] ∧ (∃ v, Has W (w.heap.size + 1) 22 #[v] ∧ Bs W n1 v tl) ∧
  Has W (w.heap.size + 1 + 1) 233 #[.func (.func 138) #[] #[.pointer (some ⟨w.heap.size + 1, 0, none⟩)]] ∧ Has W B 9 #[.string s] ∧ Dec W d ws ∧ Chg (· = d) w W ∧ n1 ≤ W.heap.size
theorem WrM.turn {Y : World} {row : Option Nat} (h : WrM w d n1 B s ws tl W) (hg : W.grownBy Y row) (hr : ∀ r, row = some r → n1 ≤ r ∧ ∃ o : Obj, W.heap[r]? = some o ∧ o.isCells = false) (hn : w.heap.size ≤ n1) : WrM w d n1 B s ws tl Y := by
  obtain ⟨h0, ⟨v, h1, h1'⟩, h2, h3, h4, h5, h6⟩ := h
  exact ⟨h0.row hg hr, ⟨v, h1.row hg hr, h1'.row hg hr⟩, h2.row hg hr, h3.row hg hr, h4.row hg hr, h5.row hg hr hn, Nat.le_trans h6 hg.size⟩
theorem WrM.more {Y : World} (h : WrM w d n1 B s ws tl W) (hb : Below W.heap.size W Y) : WrM w d n1 B s ws tl Y := by
  obtain ⟨h0, ⟨v, h1, h1'⟩, h2, h3, h4, h5, h6⟩ := h
  exact ⟨h0.below hb h0.lt, ⟨v, h1.below hb h1.lt, h1'.below hb⟩, h2.below hb h2.lt, h3.below hb h3.lt, h4.below hb, h5.trans (.of_below hb), Nat.le_trans h6 hb.size⟩
/-- A text was told. -/
theorem WrM.tell {Y : World} {tl' : List UInt8} (h : WrM w d n1 B s ws tl W) (hT : Tell (w.heap.size + 1) n1 tl' W Y) (hn : w.heap.size + 1 + 1 < n1) (hB : B < n1) (hB2 : w.heap.size + 1 < B) (hd : d < w.heap.size) : WrM w d n1 B s ws tl' Y := by
  obtain ⟨h0, _, h2, h3, h4, h5, h6⟩ := h
  obtain ⟨t1, t2, _, _⟩ := hT
  exact ⟨t2.has (by omega) h0, t1, t2.has (by omega) h2, t2.has (by omega) h3, h4.chg t2 (by omega), ⟨t2.os.trans h5.os, t2.tape.trans h5.tape, t2.output.trans h5.output, Nat.le_trans h5.size t2.size, fun k hk hne => (t2.block k (Nat.lt_of_lt_of_le hk h5.size) (by omega)).trans (h5.block k hk hne)⟩, Nat.le_trans h6 t2.size⟩
/-- Other bytes wait. -/
theorem WrM.keep {Y : World} {ws' : List UInt8} (h : WrM w d n1 B s ws tl W) (hD : Dec Y d ws') (hO : Only d W Y) (hd : d < w.heap.size) (hn : w.heap.size ≤ n1) (hB : w.heap.size ≤ B) : WrM w d n1 B s ws' tl Y := by
  obtain ⟨h0, ⟨v, h1, h1'⟩, h2, h3, h4, h5, h6⟩ := h
  refine ⟨hO.has h0 (by omega), ⟨v, hO.has h1 (by omega), h1'.kept fun g e => hO.block g (by have := (h1'.own g e).1; omega)⟩, hO.has h2 (by omega), hO.has h3 (by omega), hD, h5.trans (.only hO rfl), by rw [hO.size]; exact h6⟩
end
def Wrote (d : Nat) (tl ws : List UInt8) (w : World) (e : Ending) (w' : World) : Prop :=
  e = .returned (.tuple #[.string ⟨tl.toArray⟩, .int .i64 0]) ∧ Dec w' d ws ∧ Chg (· = d) w w'
/-- Which readings have come, and that all of them were told. -/
def WrI (w : World) (d n1 B : Nat) (s : ByteArray) (pre : List (Fin s.data.toList.length)) (W : World) : Prop :=
  (∀ x ∈ pre, (lookAt s.data.toList x.val).st ≠ 2) ∧ WrM w d n1 B s [] (conc s.data.toList (pre.map Fin.val)) W
def WrX (w : World) (d n1 B : Nat) (s : ByteArray) (c : Code) (pre : List (Fin s.data.toList.length)) (W : World) : Prop :=
  c = .exit 0 ∧ ∃ pre' x, pre = pre' ++ [x] ∧ (∀ y ∈ pre', (lookAt s.data.toList y.val).st ≠ 2) ∧ (lookAt s.data.toList x.val).st = 2 ∧ WrM w d n1 B s (s.data.toList.drop x.val) (conc s.data.toList (pre'.map Fin.val)) W
theorem wr_all {w W : World} {d n1 B : Nat} {s : ByteArray} {xs : List (Fin s.data.toList.length)} (h : Part s.data.toList xs s.size) (hI : WrI w d n1 B s xs W) : WrM w d n1 B s (run4 s.data.toList).2 (run4 s.data.toList).1 W := by
  have hl : s.data.toList.length = s.size := by simp only [Array.length_toList]; rfl
  obtain ⟨h1, h2⟩ := hI
  unfold Part at h
  rw [places_end (by omega), List.append_nil] at h
  have := run_places_all s.data.toList s.data.toList.length 0 (by omega) (by
    intro q hq
    rw [← h] at hq
    obtain ⟨x, hx, rfl⟩ := List.mem_map.1 hq
    exact h1 x hx)
  rw [List.drop_zero, ← h] at this
  rw [this]
  exact h2
theorem wr_left {w W : World} {d n1 B : Nat} {s : ByteArray} {c : Code} {pre : List (Fin s.data.toList.length)} (h : ∃ p, p ≤ s.size ∧ Part s.data.toList pre p) (hI : WrX w d n1 B s c pre W) : c = .exit 0 ∧ WrM w d n1 B s (run4 s.data.toList).2 (run4 s.data.toList).1 W := by
  obtain ⟨p, _, hp⟩ := h
  obtain ⟨rfl, pre', x, rfl, h1, h2, hM⟩ := hI
  refine ⟨rfl, ?_⟩
  unfold Part at hp
  rw [List.map_append, List.map_cons, List.map_nil, List.append_assoc] at hp
  have := run_places_cut s.data.toList (pre'.map Fin.val) 0 x.val (placesFrom s.data.toList p) hp.symm (by
    intro q hq
    obtain ⟨y, hy, rfl⟩ := List.mem_map.1 hq
    exact h1 y hy) h2
  rw [List.drop_zero] at this
  rw [this]
  exact hM
set_option maxRecDepth 100000 in
set_option maxHeartbeats 4000000 in
theorem write_any (d : Nat) (ws bs : List UInt8) (A : Option Addr) (m c : Nat) (w : World) (hd : Dec w d ws) (hm : m = bs.length) (hr : Rd w (· < w.heap.size) A bs) (hT : TabU w) (hl : bs.length ≤ 17592186044416) :
    Calls Tryz.prog 119 #[.pointer (some ⟨d, 0, none⟩), .slice A m c] w (Wrote d (run4 (ws ++ bs)).1 (run4 (ws ++ bs)).2 w) := by
  subst hm
  have hd' := Lib.hid hd
  have hr' := Lib.hid hr
  have hT' := Lib.hid hT
  have hdlt := hd.lt
  clear hd hr hT
  refine (callsIn_wide (n := 3)).1 ?_
  refine callsIn_of_wp_marks Tryz.func119 rfl trivial ?_ rfl
  refine wpIn_wide.2 ?_
  simp only [Tryz.ntmps119, List.size_toArray, List.length_cons, List.length_nil, Nat.reduceAdd, Nat.reduceSub, Array.replicate_succ, Array.replicate_zero, List.push_toArray, List.append_toArray, List.nil_append, List.cons_append]
  go_wp2
  refine wp_scope_on 0 rfl ?_
  go_wp2_with fail
  refine (none_no d ws _ (hd'.out.below ((Below.refl _ _).alloc (Nat.le_refl _) _))).mono ?_
  rintro e w' ⟨rfl, rfl⟩
  go_wp2_with fail
  have k0 := ((Has.new w 161 #[.pointer (some ⟨d, 0, none⟩)]).alloc (.cells #[.slice none 0 0] 22)).alloc (.cells #[.func (.func 138) #[] #[.pointer (some ⟨w.heap.size + 1, 0, none⟩)]] 233)
  have k1 := (Has.new (w.alloc (.cells #[.pointer (some ⟨d, 0, none⟩)] 161)) 22 #[.slice none 0 0]).alloc (.cells #[.func (.func 138) #[] #[.pointer (some ⟨w.heap.size + 1, 0, none⟩)]] 233)
  have k2 := Has.new ((w.alloc (.cells #[.pointer (some ⟨d, 0, none⟩)] 161)).alloc (.cells #[.slice none 0 0] 22)) 233 #[.func (.func 138) #[] #[.pointer (some ⟨w.heap.size + 1, 0, none⟩)]]
  have hB1 : Below w.heap.size w (((w.alloc (.cells #[.pointer (some ⟨d, 0, none⟩)] 161)).alloc (.cells #[.slice none 0 0] 22)).alloc (.cells #[.func (.func 138) #[] #[.pointer (some ⟨w.heap.size + 1, 0, none⟩)]] 233)) :=
    (((Below.refl _ _).alloc (Nat.le_refl _) _).alloc (by simp) _).alloc (by simp; omega) _
  simp only [World.size_alloc] at k1 k2
  obtain ⟨w1, hw1⟩ : ∃ w1, (((w.alloc (.cells #[.pointer (some ⟨d, 0, none⟩)] 161)).alloc (.cells #[.slice none 0 0] 22)).alloc (.cells #[.func (.func 138) #[] #[.pointer (some ⟨w.heap.size + 1, 0, none⟩)]] 233)) = w1 := ⟨_, rfl⟩
  have z1 : w1.heap.size = w.heap.size + 1 + 1 + 1 := by rw [← hw1]; simp
  rw [hw1] at k0 k1 k2 hB1 ⊢
  clear hw1
  refine (list_any d ws w1 (hd'.out.below hB1)).mono ?_
  rintro e w2 ⟨v1, rfl, hv1, hb2⟩
  obtain ⟨A1, c1, rfl, hr1⟩ := hv1.shape
  have hlen := hd'.out.len
  have hr1' := Lib.hid (hr1.mono (S' := (· < w2.heap.size)) (fun b hb => hb.2))
  have hr2' := Lib.hid ((hr'.out.kept (Kept.below (hB1.trans (hb2.mono (by omega))) (fun _ h => h))).mono (S' := (· < w2.heap.size)) (fun b hb => by have := hb2.size; omega))
  have e0 := (k0.below hb2 k0.lt).cell 0
  have hb2' := Lib.hid hb2
  have hs2 := hb2.size
  obtain ⟨m1, hm1⟩ : ∃ m, ws.length = m := ⟨_, rfl⟩
  obtain ⟨m2, hm2⟩ : ∃ m, bs.length = m := ⟨_, rfl⟩
  have hk0 := Lib.hid k0
  have hk1 := Lib.hid k1
  have hk2 := Lib.hid k2
  have hB1' := Lib.hid hB1
  have z1' := Lib.hid z1
  rw [hm1] at hlen ⊢
  rw [hm2] at hl ⊢
  have hm1' := Lib.hid hm1
  have hm2' := Lib.hid hm2
  clear hv1 hr1 hb2 k0 k1 k2 hB1 hm1 hm2 z1
  go_wp2_with fail
  have htg := together_any w2.heap.size 2 2 [.slice A1 m1 c1, .slice A m2 c] [ws, bs] (w2.alloc (.cells #[.slice A1 m1 c1, .slice A m2 c] 22)) rfl (by
    have hmon : ∀ {A0 : Option Addr} {l : List UInt8}, Rd w2 (· < w2.heap.size) A0 l → Rd (w2.alloc (.cells #[.slice A1 m1 c1, .slice A m2 c] 22)) (· < (w2.alloc (.cells #[.slice A1 m1 c1, .slice A m2 c] 22)).heap.size) A0 l := fun h =>
      (h.kept (Kept.below ((Below.refl w2.heap.size w2).alloc (Nat.le_refl _) _) (fun _ h => h))).mono (fun b hb => by simp; omega)
    refine ⟨Has.new w2 _ _, rfl, fun i x hi => ?_⟩
    match i, hi with
    | 0, hi =>
      obtain rfl : ws = x := by simpa using hi
      exact ⟨A1, c1, by rw [hm1'.out]; rfl, hmon hr1'.out⟩
    | 1, hi =>
      obtain rfl : bs = x := by simpa using hi
      exact ⟨A, c, by rw [hm2'.out]; rfl, hmon hr2'.out⟩
    | i + 2, hi => simp at hi) (by have := hm1'.out; have := hm2'.out; simp; omega) (by omega)
  simp only [List.flatten_cons, List.flatten_nil, List.append_nil] at htg
  refine htg.mono ?_
  clear htg
  rintro e w3 ⟨v2, rfl, hv2, hb3⟩
  obtain ⟨A2, c2, rfl, hr3⟩ := hv2.shape
  have hcv := hr3.text (P := Tryz.prog) 22 9 5 c2 Tryz.underlying22 Tryz.underlying5 Tryz.underlying9
  have hLs : (ws ++ bs).length ≤ 17592186044416 + 3 := by have := hm1'.out; have := hm2'.out; rw [List.length_append]; omega
  obtain ⟨s, hs⟩ : ∃ s : ByteArray, (⟨(ws ++ bs).toArray⟩ : ByteArray) = s := ⟨_, rfl⟩
  have hL : ws ++ bs = s.data.toList := by rw [← hs]
  rw [hs] at hcv
  rw [hL] at hcv hLs ⊢
  clear hs
  obtain ⟨mL, hmL⟩ : ∃ m, s.data.toList.length = m := ⟨_, rfl⟩
  rw [hmL] at hcv hLs ⊢
  have hmL' := Lib.hid hmL
  have hb23 : Below w2.heap.size w2 w3 := ((Below.refl w2.heap.size w2).alloc (Nat.le_refl _) _).trans (hb3.mono (by simp))
  have hb13 : Below w1.heap.size w1 w3 := hb2'.out.trans (hb23.mono hs2)
  have hb13' := Lib.hid hb13
  have e0 := (hk0.out.below hb13 hk0.out.lt).cell 0
  have hs3 := hb13.size
  have hL' := Lib.hid hL
  have hz3 : w.heap.size < w3.heap.size := by have := z1'.out; omega
  clear hv2 hr3 hb3 hb23 hb13 hmL hL
  go_wp2_with fail
  have hD3 : Dec (w3.alloc (.cells #[.string s] 9)) d ws := ((hd'.out.below hB1'.out).below hb13'.out).below ((Below.refl _ _).alloc (Nat.le_refl _) _)
  refine (keep_any d ws [] ⟨#[]⟩ _ hD3 rfl (by simp)).mono ?_
  rintro e w4 ⟨⟨u4, rfl⟩, hD4, hO4⟩
  have hb3a : Below w1.heap.size w1 (w3.alloc (.cells #[.string s] 9)) := hb13'.out.alloc hb13'.out.size _
  have z1 := z1'.out
  have j0 := hO4.has (hk0.out.below hb3a hk0.out.lt) (by omega)
  have j1 := hO4.has (hk1.out.below hb3a hk1.out.lt) (by omega)
  have j2 := hO4.has (hk2.out.below hb3a hk2.out.lt) (by omega)
  have j3 := hO4.has (Has.new w3 9 #[.string s]) (by omega)
  have hC4 : Chg (· = d) w w4 := (Chg.of_below (hB1'.out.trans (hb3a.mono (by omega)))).trans (.only hO4 rfl)
  have hz4 : w4.heap.size = w3.heap.size + 1 := by rw [hO4.size]; simp
  have e3 := j3.cell 0
  have hM4 : WrM w d (w4.alloc (.cells #[.string s] 9)).heap.size w3.heap.size s [] [] (w4.alloc (.cells #[.string s] 9)) :=
    ⟨j0.alloc _, ⟨_, j1.alloc _, bs_nil _ _⟩, j2.alloc _, j3.alloc _, hD4.below ((Below.refl _ _).alloc (Nat.le_refl _) _), hC4.trans (.of_below ((Below.refl _ _).alloc (Nat.le_refl _) _)), Nat.le_refl _⟩
  have hM4' := Lib.hid hM4
  have hz4' := Lib.hid hz4
  have hTab4 := Lib.hid ((hT'.out.below (hB1'.out.trans (hb3a.mono (by omega)))).kept (hO4.block _ (tab_ne (hT'.out.below (hB1'.out.trans (hb3a.mono (by omega)))) hD3)))
  clear hD3 hD4 hO4 hb3a z1 j0 j1 j2 j3 hC4 hz4 hM4
  go_wp2_with fail
  go_step3
  go_wp2_with fail
  refine (readings_any _ _).mono ?_
  rintro e w5 ⟨rfl, rfl⟩
  have hbox := Lib.hid (Has.new w4 9 #[.string s])
  have hM5 := hM4'.out
  go_wp2
  have hT5 : TabU (w4.alloc (.cells #[.string s] 9)) := hTab4.out.below ((Below.refl _ _).alloc (Nat.le_refl _) _)
  have hss : s.size = mL := by have := hmL'.out; rw [← this]; simp only [Array.length_toList]; rfl
  have hzz : w.heap.size + 1 + 1 < w3.heap.size := by have := z1'.out; omega
  obtain ⟨w5, hw5⟩ : ∃ w5, w4.alloc (.cells #[.string s] 9) = w5 := ⟨_, rfl⟩
  have hz5 : w5.heap.size = w3.heap.size + 1 + 1 := by rw [← hw5]; simp [hz4'.out]
  have hz4 := hz4'.out
  have hbox := hbox.out
  have hTn := Lib.hid hT5
  rw [hw5] at hM5 hT5 hTn hbox ⊢
  have hne : 6 ≠ d := tab_ne hT'.out hd'.out
  have hg0 := hT'.out.lt
  have hss' := Lib.hid hss
  have hsz9 : s.size ≤ 9223372036854775807 := by omega
  have hsz8 : s.size ≤ 17592186044416 + 3 := by omega
  clear hss
  clear hw5 hM4' hTab4 hk0 hk1 hk2 hB1' z1' hb2' hr1' hr2' hz4' e0 e3
  refine (wpIn_wide (n := 3)).1 ?_
  refine wpIn_range_meetsH 0 rfl (by omega) (gf := 133) (lb := #[.pointer (some ⟨w4.heap.size, 0, none⟩)]) rfl trivial (enters_of Tryz.func133 (by kernel_rfl) rfl)
    (readings_stops 2 (by omega) s hsz9 w4.heap.size (fun k => k = w.heap.size + 1 ∨ k = d) w5 (fun k hk => by rcases hk with h | h <;> omega) (fun hk => by rcases hk with h | h <;> omega) (fun hk => by rcases hk with h | h <;> omega) hT5 hbox)
    (fun h k => h.trans k) (fun W l o o' _ h1 h2 _ => KeepC.putObj W l o o' h1 h2) (Below.refl _ _) (fun _ => rfl)
    (WrI w d w5.heap.size w3.heap.size s) (WrX w d w5.heap.size w3.heap.size s) (WrM w d w5.heap.size w3.heap.size s (run4 s.data.toList).2 (run4 s.data.toList).1)
    (fun pre X Y row hs hg hr => ⟨hs.1, hs.2.turn hg hr (by omega)⟩)
    (fun c pre X Y row hs hg hr => by
      obtain ⟨h1, pre', x, h2, h3, h4, h5⟩ := hs
      exact ⟨h1, pre', x, h2, h3, h4, h5.turn hg hr (by omega)⟩)
    ⟨by simp, hM5⟩ (fun _ _ => wr_all) (fun _ _ _ => wr_left)
    (AxB ?F 201 (fun x => readV (s.data.toList.drop x.val))) axB_from
    ?assign ?body (fun _ _ h => h) ?rest
  case assign =>
    intro l pre x W K hI hK
    have hK' := Lib.hid hK
    have hI' := Lib.hid hI
    clear hK hI
    have hV : readV (s.data.toList.drop x.val) = readV (s.data.toList.drop x.val) := rfl
    conv at hV => rhs; unfold readV
    have hV' := Lib.hid hV
    dsimp only [encRd]
    rw [hV'.out]
    clear hV
    gi_wp2
    obtain ⟨k, hk⟩ : ∃ k, W.heap.size = k := ⟨_, rfl⟩
    have hnew := Has.new W 201 (readV (s.data.toList.drop x.val))
    rw [hV'.out] at hnew
    rw [hk] at hnew ⊢
    refine hK'.out _ _ ((KeepsOthers.alloc _ _).from _) ((KeepC.refl _ _ _).alloc _) ⟨hI'.out.1, hI'.out.2.more ((Below.refl _ _).alloc (Nat.le_refl _) _)⟩ ⟨k, ?_, (show Has _ k _ (readV (s.data.toList.drop x.val)) from by rw [hV'.out]; exact hnew)⟩
    rfl
  case body =>
    rintro l pre x a' W hl ⟨r, hr⟩ ⟨hall, hM⟩ ⟨k, rfl, hk⟩ hlen
    have hk : Has W k 201 (readV (s.data.toList.drop x.val)) := hk
    unfold readV at hk
    have hxs : x.val < s.size := by have := x.isLt; have := hmL'.out; have := hss'.out; omega
    have hall' := Lib.hid hall
    have hM' := Lib.hid hM
    obtain ⟨m0, ⟨v, mv, mb⟩, m2, m3, mD, mC, hWn⟩ := hM
    have e0 := m0.cell 0
    have e2 := m2.cell 0
    have e3 := m3.cell 0
    have hdW : d < W.heap.size := mD.lt
    have hmv := Lib.hid mv
    have hmb := Lib.hid mb
    have hmD := Lib.hid mD
    have hr' := Lib.hid hr
    clear m0 mv mb m2 m3 mC hall hr
    by_cases hst : (lookAt s.data.toList x.val).st = 2
    · have hsh := look_short hst
      have hst' : (look (s.data.toList.drop x.val)).st = 2 := hst
      rw [hst'] at hk
      have c3 := hk.cell 3
      have hst2 := Lib.hid hst
      have hkp := Lib.hid (keep_any d [] (s.data.toList.drop x.val) (s.extract x.val s.size) W.drew hmD.out (extract_to_end s x.val) hsh.2.1)
      have hx1 : ((x.val : Nat) : Int) ≤ (s.size : Int) := by omega
      clear hst hst' hk hsh mD
      gi_wp2
      gi_region_with (gi_at_call 141; refine (CallsIn.inRound l (callsIn_wide.2 hkp.out)).mono ?_; rintro e W2 ⟨⟨u2, rfl⟩, hD2, hO2⟩)
      all_goals
        gi_wp2
        have hO3 : Only d W W2 := ⟨hO2.os, hO2.tape, hO2.output, hO2.size, hO2.block⟩
        refine ⟨(others_only hO3 hmD.out.choose_spec.choose_spec.choose_spec.2.2).from _, rfl, pre, x, rfl, hall'.out, hst2.out, hM'.out.keep hD2 hO3 hdlt (by omega) (by omega)⟩
    · have hst' : ¬ (look (s.data.toList.drop x.val)).st = 2 := hst
      have hst2 := Lib.hid hst
      have hcv := Lib.hid (conc_snoc s.data.toList (pre.map Fin.val) x.val)
      have htd : ∃ td, told (s.data.toList.drop x.val) = td := ⟨_, rfl⟩
      obtain ⟨td, htd⟩ := htd
      rw [htd] at hk
      have htd' := Lib.hid htd
      generalize (look (s.data.toList.drop x.val)).st = sv at hk hst'
      have hsv : ((sv : Int) == 2) = false := by rw [beq_eq_false_iff_ne]; omega
      have c3 := hk.cell 3
      have c1 := hk.cell 1
      have hle := Lib.hid (conc_len s.data.toList (pre.map Fin.val))
      have htl := Lib.hid (told_len (s.data.toList.drop x.val))
      have htell := Lib.hid (tell_any (w.heap.size + 1) w5.heap.size v _ ⟨td.toArray⟩ W hmv.out hmb.out hWn (by
        have h1 := hle.out
        have h2 := htl.out
        rw [htd'.out] at h2
        rw [List.length_map] at h1
        have h3 : (⟨td.toArray⟩ : ByteArray).size = td.length := by show td.toArray.size = _; simp
        omega))
      clear hst hst' hk htd mD
      gi_wp2_with (gi_at_call 138; refine (CallsIn.inRound l (callsIn_wide.2 htell.out)).mono ?_; rintro e W2 ⟨⟨u2, rfl⟩, hT2⟩)
      have hT3 : Tell (w.heap.size + 1) w5.heap.size (conc s.data.toList ((pre ++ [x]).map Fin.val)) W W2 := by
        have h1 := hcv.out
        rw [show toldAt s.data.toList x.val = td from htd'.out] at h1
        rw [List.map_append, List.map_cons, List.map_nil, h1]
        exact hT2
      have hk3 := hT3.2.2.1
      refine ⟨hT3.2.2.2.from _, ⟨hk3.size, fun j t cs h1 h2 h3 => hk3.kept j t cs h1 h2 (fun e => h3 (.inl e))⟩, ?_, hM'.out.tell hT3 (by omega) (by omega) (by omega) hdlt⟩
      intro y hy
      rcases List.mem_append.1 hy with hy | hy
      · exact hall'.out y hy
      · rw [List.mem_singleton.1 hy]; exact hst2.out
  case rest =>
    rintro D W hD hM hDn
    have hM' := Lib.hid hM
    obtain ⟨m0, ⟨v, mv, mb⟩, m2, m3, mD, mC, hWn⟩ := hM
    obtain ⟨A5, c5, rfl, hr5⟩ := mb.shape
    have hcv := hr5.text (P := Tryz.prog) 22 9 5 c5 Tryz.underlying22 Tryz.underlying5 Tryz.underlying9
    have c1 := mv.cell 0
    have hmD := Lib.hid mD
    have hmC := Lib.hid mC
    have hDn' := Lib.hid hDn
    have hDw : w.heap.size ≤ D := by omega
    have hdD : d ≠ D := by omega
    clear m0 m2 m3 mD mC mb hr5 hDn
    go_wp2
    refine ⟨by simp, .inl ⟨_, _, rfl, run_takeDeferred hDn'.out, ?_⟩⟩
    refine ⟨_, results_tmp2 (t := 4) (u := 5) rfl _ _ _, ?_⟩
    rw [hL'.out]
    exact ⟨rfl, hmD.out.kept (World.putObj_heap_other hdD), hmC.out.putObj D _ hDw⟩
end Go.Proofs.YtlcfpnegpihicaaGreatDoor

namespace Go.Proofs.YtlcfpnegpihicaaGreatDoor
open Go.RowKit Go.Shelf
attribute [local go_sem] Oper.semAt_some
attribute [local go_sem] wide_fn wide_depth wide_round

/-! ## End, Waits, Copy, Of -/
def CopyOf (ws : List UInt8) (w : World) (e : Ending) (w' : World) : Prop := e = .returned (.pointer (some ⟨w.heap.size, 0, none⟩)) ∧ Dec w' w.heap.size ws ∧ Below w.heap.size w w'
theorem copy_any (d : Nat) (ws : List UInt8) (w : World) (hd : Dec w d ws) : Calls Tryz.prog 97 #[.pointer (some ⟨d, 0, none⟩)] w (CopyOf ws w) := by
  have hn := Lib.hid (none_no d ws w hd)
  obtain ⟨a, b, c, h1, h2, h3⟩ := hd
  have c0 := h3.cell 0
  have c1 := h3.cell 1
  have c2 := h3.cell 2
  have c3 := h3.cell 3
  have h2' := Lib.hid h2
  unfold byt at c0 c1 c2
  clear h3 h2
  go_enter Tryz.func97, Tryz.ntmps97
  go_wp2_with (go_at_call 116; refine hn.out.mono ?_; rintro e w' ⟨rfl, rfl⟩)
  go_ret
  exact ⟨rfl, ⟨a, b, c, h1, h2'.out, Has.new _ _ _⟩, (Below.refl _ _).alloc (Nat.le_refl _) _⟩
theorem cat_bytes (a b : List UInt8) : (⟨a.toArray⟩ : ByteArray) ++ ⟨b.toArray⟩ = ⟨(a ++ b).toArray⟩ := by
  have h : ((⟨a.toArray⟩ : ByteArray) ++ ⟨b.toArray⟩).data = (a ++ b).toArray := by
    simp [ByteArray.data_append]
  cases h2 : (⟨a.toArray⟩ : ByteArray) ++ ⟨b.toArray⟩ with
  | mk d => rw [h2] at h; simp only at h; rw [h]
theorem told_size_le {l : List UInt8} (h : l ≠ []) : (told l).length ≤ 3 * (look l).size := by
  have hs := look_size h
  unfold told
  split
  · rw [List.length_take]; omega
  · simp [inst]; omega
theorem ofB_len (l : List UInt8) : (ofB l).length ≤ 3 * l.length := by
  refine along (P := fun l => (ofB l).length ≤ 3 * l.length) (by simp [ofB_nil]) (fun l h ih => ?_) l
  have h1 := told_size_le h
  have hs := look_size h
  rw [ofB_step h, List.length_append]
  rw [List.length_drop] at ih
  omega
end Go.Proofs.YtlcfpnegpihicaaGreatDoor

namespace Go.Proofs.YtlcfpnegpihicaaGreatDoor
open Go.RowKit Go.Shelf

/-! ## A splitter in memory; its small parts -/
/-- The bytes with which a line ends, as the program lists them. -/
def Ends (W : World) : Prop := ∃ t cs, Has W 2 t cs ∧ cs[0]? = some (.int .u8 13) ∧ cs[1]? = some (.int .u8 10)
theorem Ends.lt {W : World} (h : Ends W) : 2 < W.heap.size := by obtain ⟨_, _, h, _⟩ := h; exact h.lt
theorem Ends.kept {W W' : World} (h : Ends W) (hb : W'.heap[2]? = W.heap[2]?) : Ends W' := by
  obtain ⟨t, cs, h1, h2⟩ := h
  exact ⟨t, cs, hb.trans h1, h2⟩
theorem Ends.below {W W' : World} (h : Ends W) (hb : Below W.heap.size W W') : Ends W' := h.kept (hb.block _ h.lt)
theorem Ends.cells {W : World} (h : Ends W) : W.cell? ⟨2, 0, none⟩ = some (.int .u8 13) ∧ W.cell? ⟨2, 1, none⟩ = some (.int .u8 10) := by
  obtain ⟨t, cs, h1, h2, h3⟩ := h
  exact ⟨(h1.cell 0).trans h2, (h1.cell 1).trans h3⟩
theorem sNone_no (sp most : Nat) (w : World) (h : w.cell? ⟨sp, 4, none⟩ = some (.int .i64 (most : Int))) (h1 : 1 ≤ most) : Calls Tryz.prog 72 #[.pointer (some ⟨sp, 0, none⟩)] w fun e w' => e = .returned (.bool false) ∧ w = w' := by
  have hi : (1 : Int) ≤ (most : Int) := by omega
  have hz : ¬ (most : Int) = 0 := by omega
  go_enter Tryz.func72, Tryz.ntmps72
  go_wp2
  go_ret
  exact ⟨ret_boolU (by simp; omega), rfl⟩
/-- Is it one with which a line ends? -/
theorem isEnd_any (c : UInt8) (w : World) (h : Ends w) : Calls Tryz.prog 122 #[.int .u8 (c.toNat : Int)] w fun e w' => e = .returned (.bool (c == 13 || c == 10)) ∧ w = w' := by
  obtain ⟨e0, e1⟩ := h.cells
  clear h
  have hc : (c == 13) = decide ((c.toNat : Int) = 13) := by
    rw [Bool.eq_iff_iff, beq_iff_eq, decide_eq_true_iff]
    exact ⟨fun h => by rw [h]; rfl, fun h => UInt8.toNat_inj.1 (by show c.toNat = 13; omega)⟩
  have hd : (c == 10) = decide ((c.toNat : Int) = 10) := by
    rw [Bool.eq_iff_iff, beq_iff_eq, decide_eq_true_iff]
    exact ⟨fun h => by rw [h]; rfl, fun h => UInt8.toNat_inj.1 (by show c.toNat = 10; omega)⟩
  rw [hc, hd]
  generalize (c.toNat : Int) = z
  by_cases h13 : z = 13
  · subst h13
    go_enter Tryz.func122, Tryz.ntmps122
    go_wp2
    go_ret
    exact ⟨rfl, rfl⟩
  · go_enter Tryz.func122, Tryz.ntmps122
    go_wp2
    go_ret
    exact ⟨ret_boolU (by rw [decide_eq_false h13, Bool.false_or, (show (z == 13) = false from beq_eq_false_iff_ne.2 h13), Bool.false_or]; rw [Bool.eq_iff_iff, beq_iff_eq, decide_eq_true_iff]), rfl⟩
/-- Where the first end stands. -/
theorem first_end (A : Option Addr) (t : List UInt8) (n c : Nat) (w : World) (hn : n = t.length) (h : Rd w (· < w.heap.size) A t) (hE : Ends w) (hm : n ≤ 1099511627776) :
    Calls Tryz.prog 121 #[.slice A n c, .func (.func 122) #[] #[]] w fun e w' => e = .returned (.int .i64 (firstEnd t : Int)) ∧ w = w' := by
  have hn' := Lib.hid hn
  have h' := Lib.hid h
  have hE' := Lib.hid hE
  clear hn h hE
  go_enter Tryz.func121, Tryz.ntmps121
  go_wp2
  go_loopw [9] (fun v W => ∃ k : Nat, v = .int .i64 (k : Int) ∧ k ≤ n ∧ k ≤ firstEnd t ∧ w = W) (fun v _ => n - (intOf v).toNat)
  case atStart => exact ⟨0, rfl, Nat.zero_le _, Nat.zero_le _, rfl⟩
  case round =>
    obtain ⟨k, rfl, hk, hkf, rfl⟩ := hrel
    have hkf' := Lib.hid hkf
    clear hkf
    by_cases hlt : k < n
    · have hki : (k : Int) < (n : Int) := by omega
      have hk0 : (0 : Int) ≤ (k : Int) := by omega
      obtain ⟨ad, rfl, _, hc⟩ := h'.out (by have := hn'.out; omega)
      have hkt : k < t.length := by have := hn'.out; omega
      have e0 := hc k _ (byts_at hkt)
      obtain ⟨ch, hch⟩ : ∃ ch, t[k] = ch := ⟨_, rfl⟩
      have hch' := Lib.hid hch
      rw [hch] at e0
      unfold byt at e0
      have hie := isEnd_any ch w hE'.out
      have hbq : Hid ((ch == 13 || ch == 10) = true → firstEnd t = k) := Lib.hid (fun hb => by
        have h1 := hkf'.out
        have h2 : ¬ k < firstEnd t := fun hlt2 => by
          have := List.not_of_lt_findIdx (p := fun c : UInt8 => c == 13 || c == 10) (xs := t) (i := k) hlt2
          rw [hch] at this
          rw [hb] at this
          simp at this
        omega)
      have hbn : Hid ((ch == 13 || ch == 10) = false → k + 1 ≤ firstEnd t) := Lib.hid (fun hb => by
        have h1 := hkf'.out
        rcases Nat.lt_or_ge k (firstEnd t) with h2 | h2
        · exact h2
        · have he : firstEnd t = k := by omega
          have := List.findIdx_getElem (p := fun c : UInt8 => c == 13 || c == 10) (xs := t) (w := by unfold firstEnd at he; omega)
          unfold firstEnd at he
          simp only [he, hch] at this
          rw [hb] at this
          cases this)
      clear hc hch
      cases hb : (ch == 13 || ch == 10) with
      | true =>
        rw [hb] at hie
        have hie' := Lib.hid hie
        have hf := hbq.out hb
        clear hie hb
        go_wp2_with (go_at_call 122; (with_reducible refine Calls.mono hie'.out ?_); rintro e w2 ⟨rfl, rfl⟩)
        refine bodyPost_ret (v := .int .i64 (k : Int)) (by simp [results, Tryz.results121, go_sem]) rfl ⟨by rw [hf], rfl⟩
      | false =>
        rw [hb] at hie
        have hie' := Lib.hid hie
        have hf := hbn.out hb
        clear hie hb
        go_wp2_with (go_at_call 122; (with_reducible refine Calls.mono hie'.out ?_); rintro e w2 ⟨rfl, rfl⟩)
        exact ⟨⟨k + 1, by go_num, by omega, hf, trivial⟩, by simp [intOf]; omega⟩
    · obtain rfl : k = n := by omega
      go_wp2
      go_ret
      refine ⟨?_, rfl⟩
      have h1 := hkf'.out
      have h2 := firstEnd_le t
      have h3 := hn'.out
      rw [show firstEnd t = k by omega]
      rfl
end Go.Proofs.YtlcfpnegpihicaaGreatDoor

namespace Go.Proofs.YtlcfpnegpihicaaGreatDoor
open Go.RowKit Go.Shelf

/-! ## What a splitter's doings change -/
/-- Below n0 all is as it was, but for S; from n0 on rows of bytes may turn. -/
structure Tn (n0 : Nat) (S : Nat → Prop) (a b : World) : Prop where
  os : b.os = a.os
  tape : b.tape = a.tape
  output : b.output = a.output
  size : a.heap.size ≤ b.heap.size
  low : ∀ k, k < n0 → k < a.heap.size → ¬ S k → b.heap[k]? = a.heap[k]?
  high : ∀ k o, a.heap[k]? = some o → ¬ S k → (∀ cs, o ≠ .cells cs 5 (0, 0)) → b.heap[k]? = some o
section
variable {n0 : Nat} {S : Nat → Prop} {a b c : World}
theorem Tn.refl (n0 : Nat) (S : Nat → Prop) (a : World) : Tn n0 S a a := ⟨rfl, rfl, rfl, Nat.le_refl _, fun _ _ _ _ => rfl, fun _ _ h _ _ => h⟩
theorem Tn.trans (h : Tn n0 S a b) (k : Tn n0 S b c) : Tn n0 S a c :=
  ⟨k.os.trans h.os, k.tape.trans h.tape, k.output.trans h.output, Nat.le_trans h.size k.size, fun i hi hl hn => (k.low i hi (Nat.lt_of_lt_of_le hl h.size) hn).trans (h.low i hi hl hn), fun i o ho hn hc => k.high i o (h.high i o ho hn hc) hn hc⟩
theorem Tn.has {k : Nat} {t : TypeId} {cs : Array Value} (h : Tn n0 S a b) (hk : ¬ S k) (ht : k < n0 ∨ t ≠ 5) (hh : Has a k t cs) : Has b k t cs := by
  rcases ht with ht | ht
  · exact (h.low k ht hh.lt hk).trans hh
  · exact h.high k _ hh hk (fun cs' e => ht (by injection e))
theorem Tn.of_below (h : Below a.heap.size a b) : Tn n0 S a b := ⟨h.os, h.tape, h.output, h.size, fun k _ hl _ => h.block k hl, fun k __o ho _ _ => (h.block k (Array.getElem?_eq_some_iff.1 ho).1).trans ho⟩
theorem Tn.below {B : Nat} (h : Tn n0 S a b) (hS : ∀ k, S k → B ≤ k) (hB : B ≤ n0) (hBa : B ≤ a.heap.size) : Below B a b := ⟨h.os, h.tape, h.output, h.size, fun k hk => h.low k (by omega) (by omega) (fun hs => by have := hS k hs; omega)⟩
theorem Tn.grown {v : Value} {l : List UInt8} (h : Tn n0 S a b) (hv : Bs b n0 v l) (hg : b.grownBy c v.ownBlock) : Tn n0 S a c :=
  h.trans ⟨hg.os, hg.tape, hg.output, hg.size, fun k hk hl _ => hg.block k hl (fun e => by have := (hv.own k e.symm).1; omega), fun k o ho _ hc => (hg.block k (Array.getElem?_eq_some_iff.1 ho).1 (fun e => by
    obtain ⟨_, cs, hh⟩ := hv.own k e.symm
    exact hc cs (Option.some.inj (ho.symm.trans hh)))).trans ho⟩
theorem Tn.setCell (h : Tn n0 S a b) {k i : Nat} (hk : S k) (u : Value) : Tn n0 S a (b.setCell ⟨k, i, none⟩ u) :=
  h.trans ⟨rfl, rfl, rfl, by simp, fun j _ _ hn => Below.heap_setCell _ ⟨k, i, none⟩ _ j (fun e => hn (e ▸ hk)), fun j o ho hn _ => (Below.heap_setCell _ ⟨k, i, none⟩ _ j (fun e => hn (e ▸ hk))).trans ho⟩
end

/-! ## An append that tells which row is the new one -/
theorem run_append_rd_at {w : World} {n0 : Nat} {v : Value} {l : List UInt8} (hv : Bs w n0 v l) (S : Nat → Prop) (A : Option Addr) (x : List UInt8) (c : Nat) (hx : Rd w S A x) (hs : l.length + x.length ≤ 140737488355328) (hn : n0 ≤ w.heap.size) (ty : TypeId) :
    ∃ v' w', (Builtin.append_ #[22, 22] ty #[v, .slice A x.length c]).run Tryz.prog w = .ok v' w' ∧ Bs w' n0 v' (l ++ x) ∧ w.grownBy w' v.ownBlock ∧ (v'.ownBlock = v.ownBlock ∨ v'.ownBlock = some w.heap.size) := by
  obtain ⟨i, hi, hz, hz1, hz2⟩ := info_parts infoB
  have nothing : x = [] → ∃ v' w', (Builtin.append_ #[22, 22] ty #[v, .slice A x.length c]).run Tryz.prog w = .ok v' w' ∧ Bs w' n0 v' (l ++ x) ∧ w.grownBy w' v.ownBlock ∧ (v'.ownBlock = v.ownBlock ∨ v'.ownBlock = some w.heap.size) := by
    rintro rfl
    have hl : Bs w n0 v (l ++ []) := by rw [List.append_nil]; exact hv
    have hg : w.grownBy w v.ownBlock := ⟨rfl, rfl, rfl, Nat.le_refl _, fun _ _ _ => rfl⟩
    rcases hv.2 with ⟨rfl, h0⟩ | ⟨g, cap, cur, rfl, hb, hh, hnc, hcm, _⟩
    · refine ⟨_, w, ?_, hl, hg, .inl rfl⟩
      cases A <;> simp [Builtin.append_, run_underlying Tryz.underlying22, sizeOf, typeInfo, hi, Builtin.lenOf, Builtin.firstCells]
      all_goals
        have h0 := run_loadCells_list (P := Tryz.prog) w ‹Addr› [] (by simp)
        simp only [List.length_nil] at h0
        simp [h0]
    · refine ⟨_, w, ?_, hl, hg, .inl rfl⟩
      cases A <;> simp [Builtin.append_, run_underlying Tryz.underlying22, sizeOf, typeInfo, hi, Builtin.lenOf, Builtin.firstCells, hnc, storeCells]
      all_goals
        have h0 := run_loadCells_list (P := Tryz.prog) w ‹Addr› [] (by simp)
        simp only [List.length_nil] at h0
        simp [h0, storeCells]
  rcases Nat.eq_zero_or_pos x.length with h0 | h0
  · exact nothing (List.eq_nil_of_length_eq_zero h0)
  · obtain ⟨ad, rfl, _, hc⟩ := hx h0
    obtain ⟨v', w', hrun, h2, h3, _, h5⟩ := run_append_own_at (P := Tryz.prog) w n0 22 ty 5 i (.int .u8 0) 1 1 Tryz.underlying22 hi hz hz1 hz2 rfl (by decide) v l.length (byts l) hv ad x.length c (byts x) (by simp [byts_length]) hc (byts_one x) (by simp only [maxLen]; omega) (by omega) hn
    refine ⟨v', w', hrun, ?_, h3, h5⟩
    unfold Bs
    rw [List.length_append, byts_append]
    exact h2
section
variable {w : World} {ops : Array Oper} {rest : List Oper} {o : Oper} {a : Act} {Q : Exit → Act → World → Prop} {n0 : Nat} {v : Value} {l : List UInt8}
theorem wpList_append_rd_at (hgd : o.guard = none) (s x : Operand) (ho : o.op = .call { callee := .builtin .append, args := #[s, x], argTypes := #[22, 22] }) (hsv : a.eval s = v) (hv : Bs w n0 v l)
    (S : Nat → Prop) (A : Option Addr) (y : List UInt8) (m c : Nat) (hm : m = y.length) (hxv : a.eval x = .slice A m c) (hx : Rd w S A y) (hs : l.length + y.length ≤ 140737488355328) (hn : n0 ≤ w.heap.size)
    (h : ∀ v' w', Bs w' n0 v' (l ++ y) → w.grownBy w' v.ownBlock → (v'.ownBlock = v.ownBlock ∨ v'.ownBlock = some w.heap.size) → wpList Tryz.prog ops Q rest (a.put o.dst v') w') : wpList Tryz.prog ops Q (o :: rest) a w := by
  subst hm
  refine wpList_plain hgd fun K hK => ?_
  obtain ⟨v', w', hrun, h2, h3, h5⟩ := run_append_rd_at hv S A y c hx hs hn o.type
  unfold Oper.wp execOp
  simp only [ho, resolve, invoke, builtin, Sem.run_bind, Sem.run_pure, Result.andThen_ok, List.map_toArray, List.map_cons, List.map_nil, hsv, hxv, hrun]
  exact hK _ _ (h v' w' h2 h3 h5)
end

/-! ## Bytes put to the line under way -/
theorem chg_set {S : Nat → Prop} {w : World} {k i : Nat} (hk : S k) (u : Value) (W : World) (h : W = w.setCell ⟨k, i, none⟩ u := by rfl) : Chg S w W := by
  subst h
  exact ⟨rfl, rfl, rfl, by simp, fun j _ hn => Below.heap_setCell _ ⟨k, i, none⟩ _ j (fun e => hn (e ▸ hk))⟩
def Added (sp n0 most : Nat) (pp mm : Value) (ob : Option Nat) (any half : Bool) (u : List UInt8) (long : Bool) (b : List UInt8) (w : World) (e : Ending) (w' : World) : Prop :=
  (∃ v, e = .returned v) ∧ (∃ vb, Has w' sp 168 #[pp, .bool any, vb, .bool (addB most u long b).2, mm, .bool half] ∧ Bs w' n0 vb (addB most u long b).1 ∧ (vb.ownBlock = none ∨ vb.ownBlock = ob ∨ vb.ownBlock = some w.heap.size)) ∧ Chg (fun k => k = sp ∨ ob = some k) w w'
set_option maxRecDepth 100000 in
theorem add_long (sp n0 most : Nat) (pp mm vb : Value) (any half long : Bool) (u b : List UInt8) (B : Option Addr) (n c : Nat) (w : World) (hs : Has w sp 168 #[pp, .bool any, vb, .bool long, mm, .bool half]) (hv : Bs w n0 vb u)
    (hn : n = b.length) (hl : long = true ∨ most < u.length + n) (hm : most ≤ 65536) (hu : u.length ≤ 65536) (hb : n ≤ 1099511627776) :
    Calls Tryz.prog 123 #[.pointer (some ⟨sp, 2, none⟩), .int .i64 (most : Int), .slice B n c] w (Added sp n0 most pp mm vb.ownBlock any half u long b w) := by
  obtain ⟨ob, hob⟩ : ∃ ob, vb.ownBlock = ob := ⟨_, rfl⟩
  rw [hob]
  obtain ⟨A, cb, rfl, _⟩ := hv.shape
  have e2 := hs.cell 2
  have e3 := hs.cell 3
  have f2 := hs.free 2
  have f3 := hs.free 3
  have hs' := Lib.hid hs
  have hab : Hid (addB most u long b = ([], true)) := Lib.hid (by unfold addB; rw [if_pos (by rw [← hn]; exact hl)])
  have hend : Hid (∀ e, (∃ v, e = Ending.returned v) → Added sp n0 most pp mm ob any half u long b w e ((w.setCell ⟨sp, 2, none⟩ (.slice none 0 0)).setCell ⟨sp, 3, none⟩ (.bool true))) := Lib.hid (fun e he => by
    refine ⟨he, ⟨.slice none 0 0, ?_, ?_, .inl rfl⟩, (chg_set (.inl rfl) _ _).trans (chg_set (.inl rfl) _ _)⟩
    · rw [hab.out]
      simpa using (hs'.out.put 2 (.slice none 0 0)).put 3 (.bool true)
    · rw [hab.out]
      exact bs_nil _ _)
  clear hs hv hn hob
  have hui : (u.length : Int) ≤ 65536 := by omega
  generalize u.length = ul at *
  cases long with
  | true =>
    go_enter Tryz.func123, Tryz.ntmps123
    go_wp2
    go_end0
    exact hend.out _ ⟨_, rfl⟩
  | false =>
    have hli : (most : Int) - (ul : Int) < (n : Int) := by simp at hl; omega
    go_enter Tryz.func123, Tryz.ntmps123
    go_wp2
    go_end0
    exact hend.out _ ⟨_, rfl⟩
set_option maxRecDepth 100000 in
theorem add_more (sp n0 most : Nat) (pp mm vb : Value) (any half : Bool) (u b : List UInt8) (B : Option Addr) (n c : Nat) (S : Nat → Prop) (w : World) (hs : Has w sp 168 #[pp, .bool any, vb, .bool false, mm, .bool half]) (hv : Bs w n0 vb u) (hn0 : n0 ≤ w.heap.size) (hr : Rd w S B b)
    (hn : n = b.length) (hl : u.length + n ≤ most) (hm : most ≤ 65536) :
    Calls Tryz.prog 123 #[.pointer (some ⟨sp, 2, none⟩), .int .i64 (most : Int), .slice B n c] w (Added sp n0 most pp mm vb.ownBlock any half u false b w) := by
  obtain ⟨ob, hob⟩ : ∃ ob, vb.ownBlock = ob := ⟨_, rfl⟩
  rw [hob]
  have hvb := hv
  obtain ⟨A, cb, rfl, _⟩ := hv.shape
  have e2 := hs.cell 2
  have e3 := hs.cell 3
  have hs' := Lib.hid hs
  have hv' := Lib.hid hvb
  have hr' := Lib.hid hr
  have hn' := Lib.hid hn
  have hab : Hid (addB most u false b = (u ++ b, false)) := Lib.hid (by unfold addB; rw [if_neg (fun h => h.elim (fun h => by cases h) (fun h => by omega))])
  have hul : Hid (u.length + b.length ≤ 140737488355328) := Lib.hid (by omega)
  have hob' := Lib.hid hob
  clear hs hv hvb hr hn hob
  obtain ⟨m5, hm5⟩ : ∃ m5, Hid ((u ++ b).length = m5) := ⟨_, rfl⟩
  obtain ⟨ul, hule⟩ : ∃ ul, u.length = ul := ⟨_, rfl⟩
  rw [hule] at hl e2 hs' hv' hob'
  have hli : ¬ (most : Int) - (ul : Int) < (n : Int) := by omega
  have hui : (ul : Int) ≤ 65536 := by omega
  clear hule
  go_enter Tryz.func123, Tryz.ntmps123
  go_wp2_with (first
    | (at_builtin; refine wpList_append_rd_at rfl _ _ rfl rfl hv'.out _ B b n c hn'.out rfl hr'.out hul.out hn0 ?_; intro v5 w5 hv5 hg5 ho5; have hv5c := Lib.hid hv5; have ho5' := Lib.hid ho5; obtain ⟨A5, c5, rfl, _⟩ := hv5.shape; rw [hm5.out] at hv5c ho5' ⊢; have hs5 : Has w5 sp _ _ := (hg5.block sp hs'.out.lt (fun e => by obtain ⟨_, cs, hh⟩ := hv'.out.own sp e.symm; exact Has.apart hs'.out hh (by decide) rfl)).trans hs'.out; have e5 := hs5.cell 2; have f5 := hs5.free 2; have hs5' := Lib.hid hs5; have hg5' := Lib.hid hg5; clear hs5 hv5 hg5 ho5)
    | fail)
  go_end0
  refine ⟨⟨_, rfl⟩, ⟨.slice A5 m5 c5, ?_, ?_, ?_⟩, ?_⟩
  · rw [hab.out]
    simpa using hs5'.out.put 2 (.slice A5 m5 c5)
  · rw [hab.out]
    exact hv5c.out.kept (fun g hg => Below.heap_setCell _ ⟨sp, 2, none⟩ _ g (fun e => by
      obtain ⟨_, cs, hh⟩ := hv5c.out.own g hg
      exact Has.apart hs5'.out hh (by decide) e.symm))
  · rcases ho5'.out with h | h
    · exact .inr (.inl (h.trans hob'.out))
    · exact .inr (.inr h)
  · have hg : Chg (fun k => k = sp ∨ ob = some k) w w5 := ⟨hg5'.out.os, hg5'.out.tape, hg5'.out.output, hg5'.out.size, fun k hk hn => hg5'.out.block k hk (fun e => hn (.inr (hob'.out.symm.trans e.symm)))⟩
    exact hg.trans (chg_set (.inl rfl) _ _)
theorem addLn_any (sp n0 most : Nat) (pp mm vb : Value) (any half long : Bool) (u b : List UInt8) (B : Option Addr) (n c : Nat) (S : Nat → Prop) (w : World) (hs : Has w sp 168 #[pp, .bool any, vb, .bool long, mm, .bool half]) (hv : Bs w n0 vb u) (hn0 : n0 ≤ w.heap.size) (hr : Rd w S B b)
    (hn : n = b.length) (hm : most ≤ 65536) (hu : u.length ≤ 65536) (hb : n ≤ 1099511627776) :
    Calls Tryz.prog 123 #[.pointer (some ⟨sp, 2, none⟩), .int .i64 (most : Int), .slice B n c] w (Added sp n0 most pp mm vb.ownBlock any half u long b w) := by
  by_cases hl : long = true ∨ most < u.length + n
  · exact add_long sp n0 most pp mm vb any half long u b B n c w hs hv hn hl hm hu hb
  · cases long with
    | true => exact absurd (.inl rfl) hl
    | false => exact add_more sp n0 most pp mm vb any half u b B n c S w hs hv hn0 hr hn (by omega) hm
end Go.Proofs.YtlcfpnegpihicaaGreatDoor
namespace Go.Proofs.YtlcfpnegpihicaaGreatDoor
open Go.RowKit Go.Shelf

/-! ## The line under way, as a line -/
theorem line_any (sp n0 : Nat) (pp mm vb : Value) (any half long : Bool) (u : List UInt8) (w : World) (hs : Has w sp 168 #[pp, .bool any, vb, .bool long, mm, .bool half]) (hv : Bs w n0 vb u) :
    Calls Tryz.prog 124 #[.pointer (some ⟨sp, 2, none⟩)] w fun e w' => e = .returned (.agg #[.string ⟨u.toArray⟩, .bool long]) ∧ Below w.heap.size w w' := by
  obtain ⟨A, cb, rfl, hr⟩ := hv.shape
  obtain ⟨m, hm⟩ : ∃ m, u.length = m := ⟨_, rfl⟩
  have hall : Hid (∀ W, Below w.heap.size w W → W.cell? ⟨sp, 2, none⟩ = some (.slice A m cb) ∧ W.cell? ⟨sp, 3, none⟩ = some (.bool long) ∧ (convert 22 9 (.slice A m cb)).run Tryz.prog W = .ok (.string ⟨u.toArray⟩) W) := Lib.hid (fun W hb => by
    refine ⟨?_, (hs.below hb hs.lt).cell 3, ?_⟩
    · rw [← hm]; exact (hs.below hb hs.lt).cell 2
    · have := (hr.kept (Kept.below hb (fun b h => h.2))).text (P := Tryz.prog) 22 9 5 cb Tryz.underlying22 Tryz.underlying5 Tryz.underlying9
      rwa [hm] at this)
  have hb1 := (Below.refl w.heap.size w).alloc (Nat.le_refl _) (.cells #[.string ⟨#[]⟩, .bool false] 92)
  have hbd := Lib.hid hb1.drew
  have hbs := Lib.hid (fun x y => (((Below.refl w.heap.size w).alloc (Nat.le_refl _) (.cells #[x, y] 92)).drew))
  have k2 := (Has.new w 92 #[.string ⟨u.toArray⟩, .bool long]).drew
  have x0 := k2.cell 0
  have x1 := k2.cell 1
  clear hs hv hr hm hb1 k2
  go_enter Tryz.func124, Tryz.ntmps124
  go_wp2_with fail
  go_region_held3 (fun W => W.cell? ⟨sp, 2, none⟩ = some (.slice A m cb) ∧ W.cell? ⟨sp, 3, none⟩ = some (.bool long) ∧ (convert 22 9 (.slice A m cb)).run Tryz.prog W = .ok (.string ⟨u.toArray⟩) W)
    (first
    | with_reducible exact hall.out _ hbd.out
    | with_reducible exact hall.out _ (hbs.out _ _)
    | fail)
    (first | fail)
  all_goals
    go_wp2
    refine bodyPost_ret (v := .agg #[.string ⟨u.toArray⟩, .bool long]) (by simp [results, Tryz.results124, go_sem, x0, x1]) rfl ⟨rfl, hbs.out _ _⟩
end Go.Proofs.YtlcfpnegpihicaaGreatDoor
