import Derived.Test.YtfblkfjjpnnhhaaDoorI
import Derived.Lib.SlBytesConst
namespace Go.Proofs.YtfblkfjjpnnhhaaDoor
open Go.RowKit

/-! ## The chapter's rows -/
theorem Qu.tidy {w w' : World} {g r r1 room : Nat} {l : List UInt8} (h : Qu w' g r1 room l) (hr : r1 = r ∨ w.heap.size ≤ r1) (hlt : r < w'.heap.size) :
    ∃ r', Qu w' g r' room l ∧ r' < w'.heap.size ∧ (r' = r ∨ w.heap.size ≤ r') := by
  obtain ⟨A, cs, s, hq, e⟩ := h
  rcases Nat.eq_zero_or_pos cs.length with h0 | h0
  · exact ⟨r, ⟨A, cs, s, ⟨hq.blk, fun hl => absurd hl (by omega), fun hl => absurd hl (by omega), hq.start, hq.count, hq.fits, hq.small⟩, e⟩, hlt, .inl rfl⟩
  · exact ⟨r1, ⟨A, cs, s, hq, e⟩, hq.row.lt h0, hr⟩
theorem parts_one {W : World} {S : Nat → Prop} {b : Nat} {p : Part} (h0 : W.cell? ⟨b, 0, none⟩ = some p.val) (hb : S b) (hp : Rd W S p.A p.l ∧ p.l.length ≤ p.c ∧ (p.l.length ≤ 140737488355328 ∧ p.c ≤ 9223372036854775807)) : Parts W S (some ⟨b, 0, none⟩) [p] :=
  ⟨fun _ => ⟨_, rfl, hb, fun i q hq => by
    match i, hq with
    | 0, hq => cases hq; exact h0⟩, fun q hq => by rw [List.mem_singleton.1 hq]; exact hp⟩
theorem parts_two {W : World} {S : Nat → Prop} {b : Nat} {p p' : Part} (h0 : W.cell? ⟨b, 0, none⟩ = some p.val) (h1 : W.cell? ⟨b, 1, none⟩ = some p'.val) (hb : S b) (hp : Rd W S p.A p.l ∧ p.l.length ≤ p.c ∧ (p.l.length ≤ 140737488355328 ∧ p.c ≤ 9223372036854775807))
    (hp' : Rd W S p'.A p'.l ∧ p'.l.length ≤ p'.c ∧ (p'.l.length ≤ 140737488355328 ∧ p'.c ≤ 9223372036854775807)) : Parts W S (some ⟨b, 0, none⟩) [p, p'] :=
  ⟨fun _ => ⟨_, rfl, hb, fun i q hq => by
    match i, hq with
    | 0, hq => cases hq; exact h0
    | 1, hq => cases hq; exact h1⟩, fun q hq => by
    rcases List.mem_cons.1 hq with rfl | hq
    · exact hp
    · rw [List.mem_singleton.1 hq]; exact hp'⟩
/-- A row that the text itself lays. -/
theorem rd_row {W : World} {S : Nat → Prop} {b : Nat} {l : List UInt8} {t : TypeId} {fr : Nat × Nat} (h : W.heap[b]? = some (.cells (byts l).toArray t fr)) (hb : S b) : Rd W S (some ⟨b, 0, none⟩) l := fun _ =>
  ⟨_, rfl, hb, fun j u hu => by rw [add_zero_, Nat.zero_add, cell_of_row W b j _ t fr h]; simpa using hu⟩
theorem lit_one (w : World) (C C' : Array Value) (t t' : TypeId) (fr : Nat × Nat) : ((w.alloc (.cells C t fr)).alloc (.cells C' t')).heap[w.heap.size]? = some (.cells C t fr) ∧ ((w.alloc (.cells C t fr)).alloc (.cells C' t')).heap[w.heap.size + 1]? = some (.cells C' t' (0, 0)) ∧
    ((w.alloc (.cells C t fr)).alloc (.cells C' t')).heap.size = w.heap.size + 2 ∧ Below w.heap.size w ((w.alloc (.cells C t fr)).alloc (.cells C' t')) :=
  ⟨(Below.heap_alloc _ _ _ (by simp)).trans (World.alloc_heap_new w _), by have := World.alloc_heap_new (w.alloc (.cells C t fr)) (.cells C' t'); rwa [World.size_alloc] at this, by simp, ((Below.refl _ _).alloc (Nat.le_refl _) _).alloc (by simp) _⟩
theorem lit_two (w : World) (C C' C'' : Array Value) (t t' t'' : TypeId) (fr fr' : Nat × Nat) : (((w.alloc (.cells C t fr)).alloc (.cells C' t' fr')).alloc (.cells C'' t'')).heap[w.heap.size]? = some (.cells C t fr) ∧ (((w.alloc (.cells C t fr)).alloc (.cells C' t' fr')).alloc (.cells C'' t'')).heap[w.heap.size + 1]? = some (.cells C' t' fr') ∧
    (((w.alloc (.cells C t fr)).alloc (.cells C' t' fr')).alloc (.cells C'' t'')).heap[w.heap.size + 1 + 1]? = some (.cells C'' t'' (0, 0)) ∧
    (((w.alloc (.cells C t fr)).alloc (.cells C' t' fr')).alloc (.cells C'' t'')).heap.size = w.heap.size + 3 ∧ Below w.heap.size w (((w.alloc (.cells C t fr)).alloc (.cells C' t' fr')).alloc (.cells C'' t'')) :=
  ⟨((Below.heap_alloc _ _ _ (by simp; omega)).trans (Below.heap_alloc _ _ _ (by simp))).trans (World.alloc_heap_new w _),
   (Below.heap_alloc _ _ _ (by simp)).trans (by have := World.alloc_heap_new (w.alloc (.cells C t fr)) (.cells C' t' fr'); rwa [World.size_alloc] at this),
   by have := World.alloc_heap_new ((w.alloc (.cells C t fr)).alloc (.cells C' t' fr')) (.cells C'' t''); rwa [World.size_alloc, World.size_alloc] at this, by simp, (((Below.refl _ _).alloc (Nat.le_refl _) _).alloc (by simp) _).alloc (by simp; omega) _⟩

/-- A queue of the call's own, w being where it began. -/
structure Chain (w : World) (g r room : Nat) (bs : List UInt8) (W : World) : Prop where
  q : Qu W g r room bs
  lt : r < W.heap.size
  gge : w.heap.size ≤ g
  rge : w.heap.size ≤ r
  b : Below w.heap.size w W
theorem Chain.turn {w W W' : World} {g r r' room : Nat} {bs bs' : List UInt8} (h : Chain w g r room bs W) (hq : Qu W' g r' room bs') (hl : r' < W'.heap.size) (hr : r' = r ∨ W.heap.size ≤ r') (hT : Turn g r W W') : Chain w g r' room bs' W' :=
  ⟨hq, hl, h.gge, by have := h.rge; have := h.b.size; omega, h.b.trans (hT.below h.gge h.rge h.b.size)⟩
theorem Chain.below {w W W' : World} {g r room : Nat} {bs : List UInt8} (h : Chain w g r room bs W) (hb : Below W.heap.size W W') : Chain w g r room bs W' :=
  ⟨h.q.kept (hb.block g h.q.lt) (hb.block r h.lt), Nat.lt_of_lt_of_le h.lt hb.size, h.gge, h.rge, h.b.trans (hb.mono h.b.size)⟩
theorem Chain.drewN {w W : World} {g r room : Nat} {bs : List UInt8} (h : Chain w g r room bs W) (q : Nat) : Chain w g r room bs (W.drewN q) := h.below (below_draws (Below.refl _ _) q)

def Pushed (w : World) (g r room : Nat) (l : List UInt8) (W : World) (e : Ending) (W' : World) : Prop := e = .returned (.int .i64 0) ∧ ∃ r', Chain w g r' room l W' ∧ (r' = r ∨ W.heap.size ≤ r') ∧ Turn g r W W'
/-- Parts that are pushed in whatever blocks they lie. -/
theorem push_chain {w W1 W : World} {g r room np cp : Nat} {bs : List UInt8} {A : Option Addr} {S : Nat → Prop} {ps : List Part} (h : Chain w g r room bs W1) (hb : Below W1.heap.size W1 W) (hp : Parts W S A ps) (hS : ∀ k, S k → k < W.heap.size ∧ k ≠ g ∧ k ≠ r) (hnp : np = ps.length)
    (hcap : np ≤ 140737488355328) (hok : bs.length + tot ps ≤ room) :
    Calls Tryd.prog 19 #[.pointer (some ⟨g, 0, none⟩), .slice A np cp] W (Pushed w g r room (bs ++ cat ps) W1) := by
  have h2 := h.below hb
  refine (push_ok g r room np cp bs A S ps W h2.q hp hS hnp hcap hok).mono ?_
  rintro e W' ⟨he, r1, hq, hr, hT⟩
  obtain ⟨r', hq', hl, hr'⟩ := hq.tidy hr (Nat.lt_of_lt_of_le h2.lt hT.size)
  have hs := hb.size
  exact ⟨he, r', h2.turn hq' hl hr' hT, by omega, (turn_of_below hb).trans hT (.inl rfl)⟩
theorem lit_len {l : List UInt8} (h : l.length ≤ 300) : l.length ≤ l.length ∧ (l.length ≤ 140737488355328 ∧ l.length ≤ 9223372036854775807) := ⟨Nat.le_refl _, by omega, by omega⟩
theorem push_lit1 {w W : World} {g r room : Nat} {bs : List UInt8} (l : List UInt8) (fr : Nat × Nat) (h : Chain w g r room bs W) (hl : l.length ≤ 300) (hok : bs.length + l.length ≤ room) :
    Calls Tryd.prog 19 #[.pointer (some ⟨g, 0, none⟩), .slice (some ⟨W.heap.size + 1, 0, none⟩) 1 1] ((W.alloc (.cells (byts l).toArray 5 fr)).alloc (.cells #[.slice (some ⟨W.heap.size, 0, none⟩) l.length l.length] 30)) (Pushed w g r room (bs ++ l) W) := by
  obtain ⟨x0, x1, xz, xb⟩ := lit_one W (byts l).toArray #[.slice (some ⟨W.heap.size, 0, none⟩) l.length l.length] 5 30 fr
  have hg := h.q.lt
  have hr := h.lt
  have := push_chain (np := 1) (cp := 1) (ps := [⟨some ⟨W.heap.size, 0, none⟩, l, l.length⟩]) (S := fun k => W.heap.size ≤ k ∧ k < W.heap.size + 2) h xb
    (parts_one (p := ⟨some ⟨W.heap.size, 0, none⟩, l, l.length⟩) (cell_of_row _ _ 0 _ _ _ x1) ⟨by omega, by omega⟩ ⟨rd_row x0 ⟨Nat.le_refl _, by omega⟩, lit_len hl⟩) (fun k hk => by omega) rfl (by omega) (by simpa [tot] using hok)
  simpa [cat] using this
theorem push_lit1_no {w W : World} {g r room : Nat} {bs : List UInt8} (l : List UInt8) (fr : Nat × Nat) (h : Chain w g r room bs W) (hl : l.length ≤ 300) (hno : room < bs.length + l.length) :
    Calls Tryd.prog 19 #[.pointer (some ⟨g, 0, none⟩), .slice (some ⟨W.heap.size + 1, 0, none⟩) 1 1] ((W.alloc (.cells (byts l).toArray 5 fr)).alloc (.cells #[.slice (some ⟨W.heap.size, 0, none⟩) l.length l.length] 30))
      (fun e W' => e = .returned (.int .i64 120) ∧ Chain w g r room bs W' ∧ Below W.heap.size W W') := by
  obtain ⟨x0, x1, xz, xb⟩ := lit_one W (byts l).toArray #[.slice (some ⟨W.heap.size, 0, none⟩) l.length l.length] 5 30 fr
  have h2 := h.below xb
  refine (push_no g r room 1 1 bs (some ⟨W.heap.size + 1, 0, none⟩) (fun k => W.heap.size ≤ k ∧ k < W.heap.size + 2) [⟨some ⟨W.heap.size, 0, none⟩, l, l.length⟩] _ h2.q
    (parts_one (p := ⟨some ⟨W.heap.size, 0, none⟩, l, l.length⟩) (cell_of_row _ _ 0 _ _ _ x1) ⟨by omega, by omega⟩ ⟨rd_row x0 ⟨Nat.le_refl _, by omega⟩, lit_len hl⟩) (fun k hk => by omega) rfl (by omega) (by simpa [tot] using hno)).mono ?_
  rintro e W' ⟨he, hb⟩
  exact ⟨he, h2.below hb, xb.trans (hb.mono xb.size)⟩
theorem push_lit2 {w W : World} {g r room : Nat} {bs : List UInt8} (l l' : List UInt8) (fr fr' : Nat × Nat) (h : Chain w g r room bs W) (hl : l.length ≤ 300) (hl' : l'.length ≤ 300) (hok : bs.length + (l.length + l'.length) ≤ room) :
    Calls Tryd.prog 19 #[.pointer (some ⟨g, 0, none⟩), .slice (some ⟨W.heap.size + 1 + 1, 0, none⟩) 2 2] (((W.alloc (.cells (byts l).toArray 5 fr)).alloc (.cells (byts l').toArray 5 fr')).alloc (.cells #[.slice (some ⟨W.heap.size, 0, none⟩) l.length l.length, .slice (some ⟨W.heap.size + 1, 0, none⟩) l'.length l'.length] 30)) (Pushed w g r room (bs ++ (l ++ l')) W) := by
  obtain ⟨x0, x1, x2, xz, xb⟩ := lit_two W (byts l).toArray (byts l').toArray #[.slice (some ⟨W.heap.size, 0, none⟩) l.length l.length, .slice (some ⟨W.heap.size + 1, 0, none⟩) l'.length l'.length] 5 5 30 fr fr'
  have hg := h.q.lt
  have hr := h.lt
  have := push_chain (np := 2) (cp := 2) (ps := [⟨some ⟨W.heap.size, 0, none⟩, l, l.length⟩, ⟨some ⟨W.heap.size + 1, 0, none⟩, l', l'.length⟩]) (S := fun k => W.heap.size ≤ k ∧ k < W.heap.size + 3) h xb
    (parts_two (p := ⟨some ⟨W.heap.size, 0, none⟩, l, l.length⟩) (p' := ⟨some ⟨W.heap.size + 1, 0, none⟩, l', l'.length⟩) (cell_of_row _ _ 0 _ _ _ x2) (cell_of_row _ _ 1 _ _ _ x2) ⟨by omega, by omega⟩ ⟨rd_row x0 ⟨Nat.le_refl _, by omega⟩, lit_len hl⟩ ⟨rd_row x1 ⟨by omega, by omega⟩, lit_len hl'⟩) (fun k hk => by omega) rfl (by omega) (by simpa [tot] using hok)
  simpa [cat] using this
theorem conv_const (w : World) (C : Array Value) (n c g : Nat) (hg : g = w.heap.size) :
    (convert 30 30 (.slice (some ⟨g, 0, none⟩) n c)).run Tryd.prog (w.alloc (.cells C 5)) = .ok (.slice (some ⟨g, 0, none⟩) n c) (w.alloc (.cells C 5 (C.size, C.size + 1))) := by
  subst hg
  exact Lib.run_convert_bytes_const w 30 5 C n c Tryd.underlying30 Tryd.underlying5
theorem new_four (w : World) (hT : Tab w) : Calls Tryd.prog 9 #[.int .i64 4] w (Made 4 w) := new_ok 4 w hT (by omega)
theorem Made.chain {w0 w w' : World} {room : Nat} {e : Ending} (h : Made room w e w') (hb : Below w0.heap.size w0 w) : Chain w0 w.heap.size w.heap.size room [] w' :=
  ⟨h.2.1, by rw [h.2.2.2]; omega, hb.size, hb.size, hb.trans (h.2.2.1.mono hb.size)⟩

/-- Bytes that lie beside the queue. -/
structure Aside (W : World) (g r b : Nat) (l : List UInt8) : Prop where
  has : Has W b 5 (byts l).toArray
  ng : b ≠ g
  nr : b ≠ r
theorem Aside.turn {W W' : World} {g r r' b : Nat} {l : List UInt8} (h : Aside W g r b l) (hT : Turn g r W W') (hr : r' = r ∨ W.heap.size ≤ r') : Aside W' g r' b l :=
  ⟨(hT.block b h.has.lt h.ng h.nr).trans h.has, h.ng, by have := h.has.lt; have := h.nr; omega⟩
theorem Aside.below {W W' : World} {g r b : Nat} {l : List UInt8} (h : Aside W g r b l) (hb : Below W.heap.size W W') : Aside W' g r b l := ⟨h.has.below hb h.has.lt, h.ng, h.nr⟩
theorem Aside.drewN {W : World} {g r b : Nat} {l : List UInt8} (h : Aside W g r b l) (q : Nat) : Aside (W.drewN q) g r b l := ⟨h.has, h.ng, h.nr⟩
theorem Aside.text {W : World} {g r b : Nat} {l : List UInt8} (h : Aside W g r b l) (n c : Nat) (hn : n = l.length) : (convert 30 9 (.slice (some ⟨b, 0, none⟩) n c)).run Tryd.prog W = .ok (.string ⟨l.toArray⟩) W := by
  subst hn
  exact h.has.rd.text 30 9 5 c Tryd.underlying30 Tryd.underlying5 Tryd.underlying9
theorem take_chain {w W : World} {g r room : Nat} {bs : List UInt8} (m : Int) (x y : List UInt8) (n : Nat) (h : Chain w g r room bs W) (hm : 0 ≤ m) (hx : bs.take m.toNat = x) (hy : bs.drop m.toNat = y) (hn : x.length = n) :
    Calls Tryd.prog 15 #[.pointer (some ⟨g, 0, none⟩), .int .i64 m] W fun e W' => ∃ b, e = .returned (.tuple #[.slice (some ⟨b, 0, none⟩) n n, .int .i64 0]) ∧ Chain w g r room y W' ∧ Aside W' g r b x ∧ W.heap.size ≤ b ∧ Turn g r W W' := by
  subst hx hy hn
  refine (take_any g r room bs m W h.q hm).mono ?_
  rintro e W' ⟨b, he, hb, hwb, hq, hT⟩
  have := h.q.lt
  have := h.lt
  exact ⟨b, he, h.turn hq (Nat.lt_of_lt_of_le h.lt hT.size) (.inl rfl) hT, ⟨hb, by omega, by omega⟩, hwb, hT⟩
theorem peek_chain {w W : World} {g r room : Nat} {bs : List UInt8} (m : Int) (x : List UInt8) (n : Nat) (h : Chain w g r room bs W) (hm : 0 ≤ m) (hx : bs.take m.toNat = x) (hn : x.length = n) :
    Calls Tryd.prog 16 #[.pointer (some ⟨g, 0, none⟩), .int .i64 m] W fun e W' => ∃ b, e = .returned (.tuple #[.slice (some ⟨b, 0, none⟩) n n, .int .i64 0]) ∧ Chain w g r room bs W' ∧ Aside W' g r b x ∧ W.heap.size ≤ b ∧ Below W.heap.size W W' := by
  subst hx hn
  refine (peek_any g r room bs m W h.q hm).mono ?_
  rintro e W' ⟨b, he, hb, hwb, hB⟩
  have := h.q.lt
  have := h.lt
  exact ⟨b, he, h.below hB, ⟨hb, by omega, by omega⟩, hwb, hB⟩
theorem drop_chain {w W : World} {g r room : Nat} {bs : List UInt8} (m : Int) (y : List UInt8) (n : Int) (h : Chain w g r room bs W) (hm : 0 ≤ m) (hx : ((bs.take m.toNat).length : Int) = n) (hy : bs.drop m.toNat = y) :
    Calls Tryd.prog 17 #[.pointer (some ⟨g, 0, none⟩), .int .i64 m] W fun e W' => e = .returned (.tuple #[.int .i64 n, .int .i64 0]) ∧ Chain w g r room y W' ∧ Turn g r W W' := by
  subst hx hy
  refine (drop_call g r room bs m W h.q hm).mono ?_
  rintro e W' ⟨he, hq, hT, hz⟩
  exact ⟨he, h.turn hq (Nat.lt_of_lt_of_le h.lt hT.size) (.inl rfl) hT, hT⟩

set_option maxRecDepth 100000 in
set_option maxHeartbeats 4000000 in
theorem works_any (w : World) (hT : Tab w) :
    Calls Tryd.prog 8 #[] w fun e w' => e = .returned (.bool true) ∧ Below w.heap.size w w' := by
  have kc := conv_const
  have hT' := Lib.hid hT
  clear hT
  go_enter Tryd.func8, Tryd.ntmps8
  go_wp2_with fail
  refine (new_four w hT'.out).mono ?_
  intro e w1 hm
  obtain rfl := hm.1
  have ch1 := Lib.hid (hm.chain (Below.refl _ _))
  clear hm
  go_wp2_with fail
  refine (push_lit2 [97, 98] [99] (2, 3) (1, 2) ch1.out (by simp) (by simp) (by simp)).mono ?_
  rintro e w2 ⟨rfl, r2, h2, hr2, hT2⟩
  have ch2 : Hid (Chain w w.heap.size r2 4 [97, 98, 99] w2) := h2
  clear ch1 hr2 hT2 h2
  go_wp2_with fail
  refine (push_lit1_no [100, 101] (2, 3) ch2.out (by simp) (by simp)).mono ?_
  rintro e w3 ⟨rfl, h3, hb3⟩
  have ch3 := Lib.hid h3
  clear ch2 hb3 h3
  go_wp2_with fail
  refine (take_chain 2 [97, 98] [99] 2 ch3.out (by omega) rfl rfl rfl).mono ?_
  rintro e w4 ⟨b4, rfl, h4, a4, hb4, hT4⟩
  have ch4 := Lib.hid h4
  have a4 := Lib.hid a4
  clear ch3 hb4 hT4 h4
  go_wp2_with fail
  refine (push_lit1 [100, 101] (2, 3) ch4.out (by simp) (by simp)).mono ?_
  rintro e w5 ⟨rfl, r5, h5, hr5, hT5⟩
  have ch5 : Hid (Chain w w.heap.size r5 4 [99, 100, 101] w5) := h5
  have a5 := Lib.hid (a4.out.turn hT5 hr5)
  clear ch4 h5 hr5 hT5 a4
  go_wp2_with fail
  refine (peek_chain 9 [99, 100, 101] 3 ch5.out (by omega) rfl rfl).mono ?_
  rintro e w6 ⟨b6, rfl, h6, p6, hb6, hB6⟩
  have ch6 := Lib.hid h6
  have a6 := Lib.hid (a5.out.below hB6)
  have p6 := Lib.hid p6
  clear ch5 h6 hb6 hB6 a5
  go_wp2_with fail
  refine (room_any w.heap.size r5 4 [99, 100, 101] w6 ch6.out.q).mono ?_
  rintro e w7 ⟨rfl, q7, rfl⟩
  have ch7 := Lib.hid (ch6.out.drewN q7)
  have a7 := Lib.hid (a6.out.drewN q7)
  have p7 := Lib.hid (p6.out.drewN q7)
  clear ch6 a6 p6
  go_wp2_with fail
  refine (drop_chain 2 [101] 2 ch7.out (by omega) rfl rfl).mono ?_
  rintro e w8 ⟨rfl, h8, hT8⟩
  have ch8 := Lib.hid h8
  have a8 := Lib.hid (a7.out.turn hT8 (.inl rfl))
  have p8 := Lib.hid (p7.out.turn hT8 (.inl rfl))
  clear ch7 a7 p7 h8 hT8
  go_wp2_with fail
  refine (take_no _ (-1) 2 (.inr rfl) w8 (asked_neg w.heap.size (-1) w8 ch8.out.q.c4 (by omega))).2.2.mono ?_
  rintro e w9 ⟨rfl, rfl⟩
  go_wp2_with fail
  refine (new_no (-1) w8 (hT'.out.below ch8.out.b hT'.out.lt) (.inl (by omega))).mono ?_
  rintro e w9 ⟨rfl, rfl⟩
  have hx1 := a8.out.text 2 2 rfl
  have hx2 := p8.out.text 3 3 rfl
  go_wp2_with (first | (go_at_call 10; refine (num_any _ _).mono ?_; rintro e w' ⟨rfl, rfl⟩) | (go_at_call 20; refine (len_any w.heap.size r5 4 [101] w8 ch8.out.q).mono ?_; rintro e w' ⟨rfl, rfl⟩))
  go_ret
  exact ⟨rfl, ch8.out.b⟩
end Go.Proofs.YtfblkfjjpnnhhaaDoor
