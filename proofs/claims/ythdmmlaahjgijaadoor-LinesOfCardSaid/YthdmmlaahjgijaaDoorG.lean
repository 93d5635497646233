import Derived.Test.YthdmmlaahjgijaaDoorF
namespace Go.Proofs.YthdmmlaahjgijaaDoor
open Go.RowKit

/-! ## Pieces, one behind the other; what waits -/
/-- So many pieces in a row, each read somewhere. -/
def Pieces (W : World) (P : Nat) (vs : List Value) (xs : List (List UInt8)) (S : Nat → Prop) : Prop :=
  Has W P 22 vs.toArray ∧ vs.length = xs.length ∧ ∀ (i : Nat) (x : List UInt8), xs[i]? = some x → ∃ A c, vs[i]? = some (Value.slice A x.length c) ∧ Rd W S A x
theorem flatten_take_succ {xs : List (List UInt8)} {k : Nat} {x : List UInt8} (h : xs[k]? = some x) : (xs.take (k + 1)).flatten = (xs.take k).flatten ++ x := by
  obtain ⟨hk, rfl⟩ := List.getElem?_eq_some_iff.1 h
  rw [List.take_succ_eq_append_getElem hk, List.flatten_append, List.flatten_cons, List.flatten_nil, List.append_nil]
theorem flatten_take_le (xs : List (List UInt8)) (k : Nat) : (xs.take k).flatten.length ≤ xs.flatten.length := by
  conv => rhs; rw [← List.take_append_drop k xs, List.flatten_append, List.length_append]
  omega
def Together (l : List UInt8) (w : World) (e : Ending) (w' : World) : Prop := ∃ v, e = .returned v ∧ Bs w' w.heap.size v l ∧ Below w.heap.size w w'
set_option maxRecDepth 100000 in
set_option maxHeartbeats 1000000 in
theorem together_any (P n c : Nat) (vs : List Value) (xs : List (List UInt8)) (w : World) (hn : n = xs.length) (hp : Pieces w P vs xs (· < w.heap.size)) (hs : xs.flatten.length ≤ 140737488355328) (hn9 : n ≤ 1000) :
    Calls Tryd.prog 52 #[.slice (some ⟨P, 0, none⟩) n c] w (Together xs.flatten w) := by
  subst hn
  go_enter Tryd.func52, Tryd.ntmps52
  go_wp2
  go_loopw [3, 8] (fun v i wr => ∃ k : Nat, k ≤ xs.length ∧ i = .int .i64 (k : Int) ∧ Bs wr w.heap.size v (xs.take k).flatten ∧ Below w.heap.size w wr) (fun _ i _ => xs.length - (intOf i).toNat)
  case atStart => exact ⟨0, Nat.zero_le _, rfl, bs_nil _ _, Below.refl _ _⟩
  case round =>
    obtain ⟨k, hk, rfl, hv, hb⟩ := hrel
    have hb' := Lib.hid hb
    have hv' := Lib.hid hv
    by_cases hlt : k < xs.length
    · obtain ⟨x, hx⟩ : ∃ x, xs[k]? = some x := ⟨xs[k], List.getElem?_eq_getElem hlt⟩
      obtain ⟨A, c1, hvk, hr⟩ := hp.2.2 k x hx
      have hh := hp.1.below hb hp.1.lt
      have hc : wr.cell? ⟨P, k, none⟩ = some (.slice A x.length c1) := by rw [hh.cell]; simpa using hvk
      have hr2 : Rd wr (fun _ => True) A x := (hr.kept (Kept.below hb (fun _ h => h))).mono (fun _ _ => trivial)
      have hle := flatten_take_le xs (k + 1)
      rw [flatten_take_succ hx, List.length_append] at hle
      have hnb := hb.size
      have hp' := Lib.hid hp
      have hx' := Lib.hid hx
      obtain ⟨m, hm⟩ : ∃ m, x.length = m := ⟨_, rfl⟩
      rw [hm] at hc
      have hm' := Lib.hid hm.symm
      have hs2 := Lib.hid (Nat.le_trans hle hs)
      have hr2' := Lib.hid hr2
      have hki : (k : Int) < (xs.length : Int) := by omega
      clear hv hb hr hr2 hvk hh hle hs hm hp hx
      go_wp2_with (at_builtin; refine wpList_append_rd rfl _ _ rfl rfl hv'.out (fun _ => True) A x m c1 hm'.out rfl hr2'.out hs2.out hnb ?_; intro v2 w2 hv2 hg2; have hv2' := Lib.hid hv2; have hg2' := Lib.hid hg2; clear hv2 hg2)
      refine ⟨⟨k + 1, by omega, by go_num, ?_, hb'.out.grown hg2'.out hnb (fun g e => (hv'.out.own g e).1)⟩, by simp [intOf]; omega⟩
      rw [flatten_take_succ hx'.out]
      exact hv2'.out
    · obtain rfl : k = xs.length := by omega
      clear hv hb
      go_wp2
      go_ret
      refine ⟨_, rfl, ?_, hb'.out⟩
      have := hv'.out
      rw [List.take_of_length_le (Nat.le_refl _)] at this
      exact this

/-- A decoder, and which bytes wait. -/
def Dec (W : World) (d : Nat) (ws : List UInt8) : Prop :=
  ∃ a b c : UInt8, ws.length ≤ 3 ∧ ws = [a, b, c].take ws.length ∧ Has W d 57 #[byt a, byt b, byt c, .int .i64 (ws.length : Int), .bool true]
section
variable {W W' : World} {d : Nat} {ws : List UInt8}
theorem Dec.lt (h : Dec W d ws) : d < W.heap.size := by obtain ⟨a, b, c, _, _, h⟩ := h; exact h.lt
theorem Dec.len (h : Dec W d ws) : ws.length ≤ 3 := by obtain ⟨a, b, c, h, _⟩ := h; exact h
theorem Dec.kept (h : Dec W d ws) (k : W'.heap[d]? = W.heap[d]?) : Dec W' d ws := by obtain ⟨a, b, c, h1, h2, h3⟩ := h; exact ⟨a, b, c, h1, h2, k.trans h3⟩
theorem Dec.below (h : Dec W d ws) (hb : Below W.heap.size W W') : Dec W' d ws := h.kept (hb.block d h.lt)
theorem Dec.count (h : Dec W d ws) : W.cell? ⟨d, 3, none⟩ = some (.int .i64 (ws.length : Int)) := by obtain ⟨a, b, c, _, _, h⟩ := h; exact h.cell 3
theorem Dec.made (h : Dec W d ws) : W.cell? ⟨d, 4, none⟩ = some (.bool true) := by obtain ⟨a, b, c, _, _, h⟩ := h; exact h.cell 4
theorem Dec.rd (h : Dec W d ws) : Rd W (· = d) (some ⟨d, 0, none⟩) ws := by
  obtain ⟨a, b, c, h1, h2, h3⟩ := h
  intro _
  refine ⟨_, rfl, rfl, fun j u hu => ?_⟩
  rw [add_zero_, Nat.zero_add, h3.cell]
  rw [h2] at hu
  rw [byts_take, List.getElem?_take] at hu
  split at hu
  · have hj : j < 3 := by omega
    have : j = 0 ∨ j = 1 ∨ j = 2 := by omega
    rcases this with rfl | rfl | rfl <;> simpa [byts] using hu
  · cases hu
end
theorem none_no (d : Nat) (ws : List UInt8) (w : World) (h : Dec w d ws) : Calls Tryd.prog 48 #[.pointer (some ⟨d, 0, none⟩)] w fun e w' => e = .returned (.bool false) ∧ w = w' := by
  have c4 := h.made
  clear h
  go_enter Tryd.func48, Tryd.ntmps48
  go_wp2
  go_ret
  exact ⟨rfl, rfl⟩
/-- No decoder: nil, or one that was not made. -/
def NoD (w : World) (v : Option Addr) : Prop := v = none ∨ ∃ d, v = some ⟨d, 0, none⟩ ∧ w.cell? ⟨d, 4, none⟩ = some (.bool false)
theorem none_yes (v : Option Addr) (w : World) (h : NoD w v) : Calls Tryd.prog 48 #[.pointer v] w fun e w' => e = .returned (.bool true) ∧ w = w' := by
  rcases h with rfl | ⟨d, rfl, c4⟩
  · go_enter Tryd.func48, Tryd.ntmps48
    go_wp2
    go_ret
    exact ⟨rfl, rfl⟩
  · go_enter Tryd.func48, Tryd.ntmps48
    go_wp2
    go_ret
    exact ⟨rfl, rfl⟩
theorem any_any (d : Nat) (ws : List UInt8) (w : World) (h : Dec w d ws) : Calls Tryd.prog 49 #[.pointer (some ⟨d, 0, none⟩)] w fun e w' => e = .returned (.bool (decide (0 < ws.length))) ∧ w = w' := by
  have c3 := h.count
  have := h.len
  clear h
  go_enter Tryd.func49, Tryd.ntmps49
  go_wp2
  go_ret
  exact ⟨ret_bool (by simp), rfl⟩
theorem new_any (w : World) : Calls Tryd.prog 21 #[] w fun e w' => e = .returned (.pointer (some ⟨w.heap.size, 0, none⟩)) ∧ w' = w.alloc (.cells #[.int .u8 0, .int .u8 0, .int .u8 0, .int .i64 0, .bool true] 57) := by
  go_enter Tryd.func21, Tryd.ntmps21
  go_wp2
  go_ret
  exact ⟨rfl, rfl⟩
theorem dec_new (w : World) : Dec (w.alloc (.cells #[.int .u8 0, .int .u8 0, .int .u8 0, .int .i64 0, .bool true] 57)) w.heap.size [] := ⟨0, 0, 0, by simp, by simp, Has.new _ _ _⟩

/-- What a list of what waits is. -/
def ListOf (ws : List UInt8) (w : World) (e : Ending) (w' : World) : Prop := ∃ v, e = .returned v ∧ Bs w' w.heap.size v ws ∧ Below w.heap.size w w'
set_option maxRecDepth 100000 in
set_option maxHeartbeats 1000000 in
theorem list_any (d : Nat) (ws : List UInt8) (w : World) (h : Dec w d ws) : Calls Tryd.prog 53 #[.pointer (some ⟨d, 0, none⟩)] w (ListOf ws w) := by
  have c3 := h.count
  have hlen := h.len
  have hlt := h.lt
  have h' := Lib.hid h
  obtain ⟨m, hm⟩ : ∃ m, ws.length = m := ⟨_, rfl⟩
  rw [hm] at c3 hlen
  have hm' := Lib.hid hm
  have c3d : w.drew.cell? ⟨d, 3, none⟩ = some (.int .i64 (m : Int)) := c3
  have i0 : (0 : Int) ≤ (m : Int) := by omega
  have i1 : (m : Int) ≤ 3 := by omega
  clear h hm
  go_enter Tryd.func53, Tryd.ntmps53
  go_wp2
  have hbw : Below w.heap.size w (w.alloc (.cells #[.slice (some ⟨d, 0, none⟩) m m] 22)).drew := below_draws ((Below.refl w.heap.size w).alloc (Nat.le_refl _) _) 1
  have ht := together_any w.heap.size 1 1 [.slice (some ⟨d, 0, none⟩) m m] [ws] (w.alloc (.cells #[.slice (some ⟨d, 0, none⟩) m m] 22)).drew rfl (by
    refine ⟨(Has.new w _ _).drew, rfl, fun i x hi => ?_⟩
    cases i with
    | zero =>
      obtain rfl : ws = x := by simpa using hi
      refine ⟨_, m, by rw [hm'.out]; rfl, (h'.out.below hbw).rd.mono (fun b hb => ?_)⟩
      subst hb; exact (h'.out.below hbw).lt
    | succ i => simp at hi) (by have := hm'.out; simp; omega) (by omega)
  simp only [List.flatten_cons, List.flatten_nil, List.append_nil] at ht
  have ht' := Lib.hid ht
  have hbw' := Lib.hid hbw
  have hkeep := (hbw.cell (p := ⟨d, 3, none⟩) hlt).trans c3
  have hltw := Nat.lt_of_lt_of_le hlt hbw.size
  clear ht hbw
  go_region_held3 (fun w' => w'.cell? ⟨d, 3, none⟩ = some (.int .i64 (m : Int))) (first | exact c3d | exact hkeep | exact hS2)
    (first | (go_at_call 52; refine ht'.out.mono ?_; rintro e w2 ⟨v, rfl, hv2, hb2⟩; have hv2' := Lib.hid hv2; have hb2' := Lib.hid hb2; have hS2 := (hb2.cell (p := ⟨d, 3, none⟩) hltw).trans hkeep; clear hv2 hb2))
  go_wp2
  go_ret
  exact ⟨v, rfl, hv2'.out.mono hbw'.out.size, hbw'.out.trans (hb2'.out.mono hbw'.out.size)⟩

/-! ## keep -/
theorem goInt_nat (n : Nat) : goInt n = .int .i64 (n : Int) := rfl
/-- Three bytes of which the first ones are set. -/
theorem three_set (a b c : UInt8) (t : List UInt8) (ht : t.length ≤ 3) (x y : Value) : ∃ a' b' c' : UInt8, t = [a', b', c'].take t.length ∧
    (List.take 0 (#[byt a, byt b, byt c, x, y] : Array Value).toList ++ Lib.byteCells t ++ List.drop (0 + t.length) (#[byt a, byt b, byt c, x, y] : Array Value).toList).toArray = #[byt a', byt b', byt c', x, y] := by
  match t, ht with
  | [], _ => exact ⟨a, b, c, rfl, rfl⟩
  | [p], _ => exact ⟨p, b, c, rfl, rfl⟩
  | [p, q], _ => exact ⟨p, q, c, rfl, rfl⟩
  | [p, q, r], _ => exact ⟨p, q, r, rfl, rfl⟩
  | _ :: _ :: _ :: _ :: _, h => simp at h
theorem keep_copy (d : Nat) (ws t : List UInt8) (s : ByteArray) (w : World) (h : Dec w d ws) (hs : s.data.toList = t) (ht : t.length ≤ 3) (ty : TypeId) :
    ∃ w1, (Builtin.copy_ #[22, 9] ty #[.slice (some ⟨d, 0, none⟩) 3 3, .string s]).run Tryd.prog w = .ok (.int .i64 (t.length : Int)) w1 ∧
      (w1.cell? ⟨d, 3, none⟩ = some (.int .i64 (ws.length : Int)) ∧ w1.frozen? ⟨d, 3, none⟩ = false) ∧ Dec (w1.setCell ⟨d, 3, none⟩ (.int .i64 (t.length : Int))) d t ∧ Only d w (w1.setCell ⟨d, 3, none⟩ (.int .i64 (t.length : Int))) := by
  obtain ⟨a, b, c, h1, h2, h3⟩ := h
  have hsz : s.size = t.length := by rw [← hs]; simp only [Array.length_toList]; rfl
  have hrun := Lib.run_copy_row_string (P := Tryd.prog) w 22 9 ty 5 d 0 3 3 s #[byt a, byt b, byt c, .int .i64 (ws.length : Int), .bool true] 57 Tryd.underlying22 info1 h3 (by omega) (by simp; omega)
  obtain ⟨a', b', c', e1, e2⟩ := three_set a b c t ht (.int .i64 (ws.length : Int)) (.bool true)
  rw [hs, hsz, e2, goInt_nat] at hrun
  have hh : Has (w.setRow d #[byt a', byt b', byt c', .int .i64 (ws.length : Int), .bool true]) d 57 #[byt a', byt b', byt c', .int .i64 (ws.length : Int), .bool true] := by
    have := setRow_heap w d _ #[byt a', byt b', byt c', .int .i64 (ws.length : Int), .bool true] _ _ h3
    unfold Has
    simpa using this
  refine ⟨_, hrun, ⟨hh.cell 3, hh.free 3⟩, ⟨a', b', c', ht, e1, ?_⟩, (only_setRow d w _).trans (only_setCell d 3 _ _)⟩
  have := hh.put 3 (.int .i64 (t.length : Int))
  simpa using this
section
variable {w : World} {ops : Array Oper} {rest : List Oper} {o : Oper} {a : Act} {Q : Exit → Act → World → Prop}
theorem wpList_copy_keep (hgd : o.guard = none) (x y : Operand) (ho : o.op = .call { callee := .builtin .copy, args := #[x, y], argTypes := #[22, 9] })
    (d : Nat) (ws t : List UInt8) (s : ByteArray) (hx : a.eval x = .slice (some ⟨d, 0, none⟩) 3 3) (hy : a.eval y = .string s) (hd : Dec w d ws) (hs : s.data.toList = t) (ht : t.length ≤ 3)
    (h : ∀ w1, (w1.cell? ⟨d, 3, none⟩ = some (.int .i64 (ws.length : Int)) ∧ w1.frozen? ⟨d, 3, none⟩ = false) → Dec (w1.setCell ⟨d, 3, none⟩ (.int .i64 (t.length : Int))) d t ∧ Only d w (w1.setCell ⟨d, 3, none⟩ (.int .i64 (t.length : Int))) → wpList Tryd.prog ops Q rest (a.put o.dst (.int .i64 (t.length : Int))) w1) :
    wpList Tryd.prog ops Q (o :: rest) a w := by
  refine wpList_plain hgd fun K hK => ?_
  obtain ⟨w1, hrun, h2, h3⟩ := keep_copy d ws t s w hd hs ht o.type
  unfold Oper.wp execOp
  simp only [ho, resolve, invoke, builtin, Sem.run_bind, Sem.run_pure, Result.andThen_ok, List.map_toArray, List.map_cons, List.map_nil, hx, hy, hrun]
  exact hK _ _ (h w1 h2 h3)
end
set_option maxHeartbeats 1000000 in
theorem keep_any (d : Nat) (ws t : List UInt8) (s : ByteArray) (w : World) (h : Dec w d ws) (hs : s.data.toList = t) (ht : t.length ≤ 3) :
    Calls Tryd.prog 50 #[.pointer (some ⟨d, 0, none⟩), .string s] w fun e w' => (∃ v, e = .returned v) ∧ Dec w' d t ∧ Only d w w' := by
  have h' := Lib.hid h
  have hs' := Lib.hid hs
  have ht' := Lib.hid ht
  clear h hs ht
  go_enter Tryd.func50, Tryd.ntmps50
  go_wp2_with (refine wpList_copy_keep rfl _ _ rfl d ws t s rfl rfl h'.out hs'.out ht'.out ?_; rintro w1 ⟨c3, f3⟩ hd; have hd' := Lib.hid hd; clear hd)
  go_end0
  exact ⟨⟨_, rfl⟩, hd'.out⟩
end Go.Proofs.YthdmmlaahjgijaaDoor
