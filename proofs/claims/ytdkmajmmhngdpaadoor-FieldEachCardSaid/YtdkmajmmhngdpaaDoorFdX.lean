import Derived.Test.YtdkmajmmhngdpaaDoorFdXa
namespace Go.Proofs.YtdkmajmmhngdpaaDoor
open Go.RowKit Go.Shelf
attribute [local go_sem] Oper.semAt_some
attribute [local go_sem] wide_fn wide_depth wide_round

/-! ## said: what lines say, one by one -/
abbrev Fld := Int × List UInt8 × List UInt8
def tellS (ls : List (List UInt8)) (k : Nat) : Nat × Fld := (k, fieldF (ls.getD k []))
def encFd (x : Nat × Fld) : Array Value := #[.int .i64 (x.1 : Int), .agg #[.int .i64 x.2.1, .string ⟨x.2.2.1.toArray⟩, .string ⟨x.2.2.2.toArray⟩]]
def encK (ls : List (List UInt8)) (k : Nat) : Array Value := encFd (tellS ls k)
/-- But for the blocks of which Wr holds, cells lie as they lay. -/
def KeepW (Wr : Nat → Prop) (W W' : World) : Prop := W.heap.size ≤ W'.heap.size ∧ ∀ k cs t f, W.heap[k]? = some (.cells cs t f) → ¬ Wr k → W'.heap[k]? = some (.cells cs t f)
theorem KeepW.refl (Wr : Nat → Prop) (W : World) : KeepW Wr W W := ⟨Nat.le_refl _, fun _ _ _ _ h _ => h⟩
theorem KeepW.trans {Wr : Nat → Prop} {A B C : World} (h : KeepW Wr A B) (k : KeepW Wr B C) : KeepW Wr A C := ⟨Nat.le_trans h.1 k.1, fun j cs t f hj hw => k.2 j cs t f (h.2 j cs t f hj hw) hw⟩
theorem KeepW.below {Wr : Nat → Prop} {W W' : World} (h : Below W.heap.size W W') : KeepW Wr W W' := ⟨h.size, fun k __cs _t _f hk _ => (h.block k (Array.getElem?_eq_some_iff.1 hk).1).trans hk⟩
theorem KeepW.setCell {Wr : Nat → Prop} {A B : World} (h : KeepW Wr A B) {p : Addr} (hp : Wr p.block) (u : Value) : KeepW Wr A (B.setCell p u) :=
  ⟨by have := h.1; simpa [World.setCell] using this, fun k cs t f hk hw => (Below.heap_setCell B p u k (fun e => hw (e ▸ hp))).trans (h.2 k cs t f hk hw)⟩
theorem KeepW.putObj {Wr : Nat → Prop} (W : World) (l : Nat) (o o' : Obj) (h : W.heap[l]? = some o) (ho : o.isCells = false) : KeepW Wr W (W.putObj l o') :=
  ⟨by simp [World.putObj], fun k cs t f hk _ => (World.putObj_heap_other (fun e => by subst e; rw [h] at hk; rw [Option.some.inj hk] at ho; cases ho)).trans hk⟩
theorem KeepW.has {Wr : Nat → Prop} {W W' : World} {k : Nat} {t : TypeId} {cs : Array Value} (h : KeepW Wr W W') (hk : ¬ Wr k) (hh : Has W k t cs) : Has W' k t cs := h.2 k cs t (0, 0) hh hk
theorem cell_block {W : World} {b i : Nat} {v : Value} (h : W.cell? ⟨b, i, none⟩ = some v) : ∃ cs t f, W.heap[b]? = some (.cells cs t f) := by
  cases hb : W.heap[b]? with
  | none => simp [World.cell?, hb] at h
  | some o => cases o with
    | cells cs t f => exact ⟨cs, t, f, rfl⟩
    | _ => simp [World.cell?, hb] at h
theorem KeepW.cell {Wr : Nat → Prop} {W W' : World} {b i : Nat} {v : Value} (h : KeepW Wr W W') (hk : ¬ Wr b) (hc : W.cell? ⟨b, i, none⟩ = some v) : W'.cell? ⟨b, i, none⟩ = some v := by
  obtain ⟨cs, t, f, hb⟩ := cell_block hc
  have hb' := h.2 b cs t f hb hk
  rw [← hc]
  simp only [World.cell?, hb, hb']
/-- None of the blocks that are read again and again is written. -/
def NotW (Wr : Nat → Prop) (bP g : Nat) : Prop := ¬ Wr bP ∧ ¬ Wr g ∧ ¬ Wr 1 ∧ ¬ Wr 0 ∧ ¬ Wr 3
structure EnvS (W : World) (bP g : Nat) (A : Option Addr) (ls : List (List UInt8)) (n c : Nat) (cur : Array Value) : Prop where
  num : n = ls.length
  box : Has W bP 47 #[.slice A n c]
  row : 0 < n → A = some ⟨g, 0, none⟩ ∧ Has W g 9 cur
  at' : ∀ (k : Nat) (y : List UInt8), ls[k]? = some y → cur[k]? = some (Value.string ⟨y.toArray⟩) ∧ y.length ≤ 1000
  names : NamesT W
  max : MaxT W
  tab : Tab W
theorem EnvS.kept {Wr : Nat → Prop} {W W' : World} {bP g n c : Nat} {A : Option Addr} {ls : List (List UInt8)} {cur : Array Value} (h : EnvS W bP g A ls n c cur) (hw : NotW Wr bP g) (hk : KeepW Wr W W') : EnvS W' bP g A ls n c cur :=
  ⟨h.num, hk.has hw.1 h.box, fun hn => ⟨(h.row hn).1, hk.has hw.2.1 (h.row hn).2⟩, h.at',
    by obtain ⟨t, hN⟩ := h.names; exact ⟨t, hk.2 _ _ _ _ hN hw.2.2.1⟩,
    by obtain ⟨m, hM⟩ := h.max; exact ⟨m, hk.has hw.2.2.2.2 hM⟩,
    ⟨hk.cell hw.2.2.2.1 h.tab.1, hk.cell hw.2.2.2.1 h.tab.2⟩⟩
theorem EnvS.below {W W' : World} {bP g n c : Nat} {A : Option Addr} {ls : List (List UInt8)} {cur : Array Value} (h : EnvS W bP g A ls n c cur) (hb : Below W.heap.size W W') : EnvS W' bP g A ls n c cur :=
  ⟨h.num, h.box.below hb h.box.lt, fun hn => ⟨(h.row hn).1, (h.row hn).2.below hb (h.row hn).2.lt⟩, h.at', h.names.below hb, h.max.below hb, h.tab.below hb⟩
set_option maxRecDepth 100000 in
set_option maxHeartbeats 2000000 in
theorem said1_in (n : Nat) (hn : 1 ≤ n) (ls : List (List UInt8)) (l bP g N c : Nat) (A : Option Addr) (cur : Array Value) (hN : N ≤ 1000000) (Wr : Nat → Prop) (hWr : NotW Wr bP g) (J Jx : List Nat → World → Prop)
    (hJ : ∀ ys W W', J ys W → Below W.heap.size W W' → J ys W')
    (hY : ∀ pre y W, J pre W → pre.length < N → YieldAt Fence.wide (n - 1) Tryd.prog l (encK ls y) W fun e W' =>
      (e = .returned (.bool true) ∧ J (pre ++ [y]) W' ∧ KeepW Wr W W') ∨ (e = .returned (.bool false) ∧ Jx (pre ++ [y]) W'))
    (W : World) (hE : EnvS W bP g A ls N c cur) (h0 : J [] W) :
    CallsIn Fence.wide n Tryd.prog 94 #[.func (.yield l) #[] #[], .pointer (some ⟨bP, 0, none⟩)] W fun e W' => (∃ v, e = .returned v) ∧
      ((∃ ys, ys = List.range N ∧ J ys W') ∨ (∃ pre, (∃ k, k < N ∧ pre = List.range (k + 1)) ∧ Jx pre W')) := by
  refine callsIn_of_wp Tryd.func94 rfl trivial ?_ rfl
  simp only [Tryd.ntmps94, List.size_toArray, List.length_cons, List.length_nil, Nat.reduceAdd, Nat.reduceSub, Array.replicate_succ, Array.replicate_zero, List.push_toArray, List.append_toArray, List.nil_append, List.cons_append]
  have c0 := hE.box.cell 0
  have hE' := Lib.hid hE
  have h0' := Lib.hid h0
  clear hE h0
  gi_wp2
  gi_loopw [7] (fun x wr => ∃ k : Nat, k ≤ N ∧ x = .int .i64 (k : Int) ∧ J (List.range k) wr ∧ EnvS wr bP g A ls N c cur)
    (fun x _ => N - (intOf x).toNat)
  case atStart => exact ⟨0, Nat.zero_le _, rfl, h0'.out, hE'.out⟩
  case round =>
    obtain ⟨k, hk, rfl, hJs, hE⟩ := hrel
    have hEr := Lib.hid hE
    have hJr := Lib.hid hJs
    clear hE hJs
    by_cases hlt : k < N
    · have hltI : (k : Int) < (N : Int) := by omega
      obtain ⟨y, hy⟩ : ∃ y, ls[k]? = some y := ⟨ls[k]'(by have := hEr.out.num; omega), List.getElem?_eq_getElem _⟩
      obtain ⟨rfl, hg⟩ := hEr.out.row (by omega)
      obtain ⟨hck, hyl⟩ := hEr.out.at' k y hy
      have ck := hg.cell k
      rw [hck] at ck
      have hof := callsIn_wide (n := n - 1).2 (ofF_any y wr (by omega) hEr.out.names hEr.out.max)
      have htl : tellS ls k = (k, fieldF y) := by unfold tellS; rw [List.getD_eq_getElem?_getD, hy]; rfl
      unfold fieldV at hof
      generalize fieldF y = f at hof htl
      obtain ⟨ki, nm, vl⟩ := f
      simp only at hof
      have hof' := Lib.hid hof
      have htl' := Lib.hid htl
      clear hof htl hy hg hck
      gi_wp2_with fail
      refine hof'.out.mono ?_
      rintro e w2 ⟨rfl, hb2⟩
      obtain ⟨fn, tmps, assign, body, hyl2, hR⟩ := hY _ k w2 (hJ _ _ _ hJr.out hb2) (by rw [List.length_range]; exact hlt)
      unfold encK at hyl2
      rw [htl'.out] at hyl2
      have hy' : (Instr.yield l #[.int .i64 (k : Int), .agg #[.int .i64 ki, .string ⟨nm.toArray⟩, .string ⟨vl.toArray⟩]]).run Tryd.prog w2 = .ok (Next.round l fn tmps assign body) w2 := hyl2
      have hR2 := Lib.hid (hR.mono (R' := fun e W' => ∃ b, e = .returned (.bool b) ∧ YPost J Jx (KeepW Wr) (List.range (k + 1)) w2 b W') (by
        rintro e W' (⟨rfl, h1, h2⟩ | ⟨rfl, h1⟩)
        · exact ⟨true, rfl, by rw [List.range_succ]; exact h1, h2⟩
        · exact ⟨false, rfl, by show Jx _ _; rw [List.range_succ]; exact h1⟩))
      have hE2 := Lib.hid (hEr.out.below hb2)
      clear hyl2 hR hb2
      gi_wp2
      refine hR2.out.mono ?_
      rintro e W3 ⟨b, rfl, hP⟩
      cases b
      · have hP' := Lib.hid (show Jx (List.range (k + 1)) W3 from hP)
        clear hP
        gi_wp2
        refine bodyPost_ret (results_none rfl _ _ _) rfl ?_
        exact ⟨⟨_, rfl⟩, .inr ⟨_, ⟨k, hlt, rfl⟩, hP'.out⟩⟩
      · have hP' := Lib.hid (show J (List.range (k + 1)) W3 ∧ KeepW Wr w2 W3 from hP)
        clear hP
        gi_wp2
        exact ⟨⟨k + 1, by omega, by go_num, hP'.out.1, hE2.out.kept hWr hP'.out.2⟩, by simp [intOf]; omega⟩
    · obtain rfl : k = N := by omega
      gi_wp2
      go_end0
      exact ⟨⟨_, rfl⟩, .inl ⟨_, rfl, hJr.out⟩⟩
theorem said_stops (n : Nat) (hn : 1 ≤ n) (ls : List (List UInt8)) (bP g N c : Nat) (A : Option Addr) (cur : Array Value) (hN : N ≤ 1000000) (Wr : Nat → Prop) (hWr : NotW Wr bP g) (w : World) (hE : EnvS w bP g A ls N c cur) :
    SeqStopsK Fence.wide n Tryd.prog 94 #[.pointer (some ⟨bP, 0, none⟩)] (encK ls) (KeepW Wr) (fun ys => ys = List.range N) (fun pre => ∃ k, k < N ∧ pre = List.range (k + 1)) N w := fun l J Jx W hW hA _ hY h0 =>
  said1_in n hn ls l bP g N c A cur hN Wr hWr J Jx (fun ys W1 W2 h1 h2 => hA ys W1 W2 none h1 (grown_below h2) (fun r e => by cases e)) hY W (hE.below hW) h0
theorem said_any (A : Option Addr) (n c : Nat) (w : World) : Calls Tryd.prog 65 #[.slice A n c] w fun e w' => e = .returned (.func (.func 94) #[] #[.pointer (some ⟨w.heap.size, 0, none⟩)]) ∧ w' = w.alloc (.cells #[.slice A n c] 47) := by
  go_enter Tryd.func65, Tryd.ntmps65
  go_wp2
  go_ret
  exact ⟨rfl, rfl⟩
theorem cells_row {X Y : World} {row : Option Nat} {k : Nat} {t : TypeId} {cs : Array Value} {f : Nat × Nat} {B : Nat} (hs : X.heap[k]? = some (.cells cs t f)) (hg : X.grownBy Y row) (hr : ∀ r, row = some r → B ≤ r ∧ ∃ o : Obj, X.heap[r]? = some o ∧ o.isCells = false) : Y.heap[k]? = some (.cells cs t f) :=
  (hg.block k (Array.getElem?_eq_some_iff.1 hs).1 (fun e => by
    obtain ⟨_, o, ho, hc⟩ := hr k e.symm
    rw [hs] at ho
    rw [← Option.some.inj ho] at hc
    cases hc)).trans hs
theorem EnvS.row' {X Y : World} {row : Option Nat} {B : Nat} {bP g n c : Nat} {A : Option Addr} {ls : List (List UInt8)} {cur : Array Value} (h : EnvS X bP g A ls n c cur) (hg : X.grownBy Y row) (hr : ∀ r, row = some r → B ≤ r ∧ ∃ o : Obj, X.heap[r]? = some o ∧ o.isCells = false) : EnvS Y bP g A ls n c cur :=
  ⟨h.num, cells_row h.box hg hr, fun hn => ⟨(h.row hn).1, cells_row (h.row hn).2 hg hr⟩, h.at',
    by obtain ⟨t, hN⟩ := h.names; exact ⟨t, cells_row hN hg hr⟩,
    by obtain ⟨m, hM⟩ := h.max; exact ⟨m, cells_row hM hg hr⟩,
    by
      have key : ∀ i v, X.cell? ⟨0, i, none⟩ = some v → Y.cell? ⟨0, i, none⟩ = some v := fun i v hc => by
        obtain ⟨cs, t, f, hb⟩ := cell_block hc
        rw [← hc]
        simp only [World.cell?, hb, cells_row hb hg hr]
      exact ⟨key _ _ h.tab.1, key _ _ h.tab.2⟩⟩
end Go.Proofs.YtdkmajmmhngdpaaDoor
