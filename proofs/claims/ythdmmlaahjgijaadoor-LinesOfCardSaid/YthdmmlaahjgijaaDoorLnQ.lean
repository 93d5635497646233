import Derived.Test.YthdmmlaahjgijaaDoorLnO
import Derived.DeepKeys
import Derived.BigQuiet
namespace Go.Proofs.YthdmmlaahjgijaaDoor
open Go.RowKit Go.Shelf

/-! ## A splitter of a law's own; Of -/
/-- A splitter all of whose blocks lie from B on. -/
def SpN (W : World) (B sp dp most : Nat) (s : CSt) : Prop := ∃ ob, SpO W B sp dp most ob s ∧ B ≤ sp ∧ B ≤ dp
theorem SpN.below {W W' : World} {B sp dp most : Nat} {s : CSt} (h : SpN W B sp dp most s) (hb : Below W.heap.size W W') : SpN W' B sp dp most s := by
  obtain ⟨ob, h1, h2⟩ := h
  exact ⟨ob, h1.below hb, h2⟩
theorem Lns.chg {W W' : World} {n0 nb sp dp most : Nat} {ob : Option Nat} {v : Value} {l : List (List UInt8 × Bool)} {s : CSt} (h : Lns W n0 v l) (hs : SpO W nb sp dp most ob s) (hc : Chg (ChL sp dp ob) W W') : Lns W' n0 v l := h.kept fun g hg => by
  obtain ⟨_, _, hh⟩ := h.own g hg
  obtain ⟨vb, a1, a2, a3, a4⟩ := hs
  obtain ⟨_, hd⟩ := a3.typed
  refine hc.block g hh.lt (fun hk => ?_)
  rcases hk with hk | hk | hk
  · exact hh.apart a1 (by decide) hk
  · exact hh.apart hd (by decide) hk
  · obtain ⟨_, _, h8⟩ := a2.own g (a4.trans hk)
    exact hh.apart h8 (by decide) rfl
/-- Lines that are read somewhere. -/
def LnAt (W : World) (A : Option Addr) (xs : List (List UInt8 × Bool)) : Prop := ∀ i x, xs[i]? = some x → ∃ g, A = some ⟨g, 0, none⟩ ∧ (∃ cs, Has W g 70 cs) ∧ W.cell? ⟨g, i * 2, none⟩ = some (.string ⟨x.1.toArray⟩) ∧ W.cell? ⟨g, i * 2 + 1, none⟩ = some (.bool x.2)
theorem LnAt.below {W W' : World} {A : Option Addr} {l : List (List UInt8 × Bool)} (h : LnAt W A l) (hb : Below W.heap.size W W') : LnAt W' A l := fun i x hx => by
  obtain ⟨g, hA, ⟨cs, hg⟩, h1, h2⟩ := h i x hx
  exact ⟨g, hA, ⟨cs, hg.below hb hg.lt⟩, (hb.cell (p := ⟨g, i * 2, none⟩) hg.lt).trans h1, (hb.cell (p := ⟨g, i * 2 + 1, none⟩) hg.lt).trans h2⟩
theorem LnAt.chg {W W' : World} {nb sp dp most : Nat} {ob : Option Nat} {A : Option Addr} {l : List (List UInt8 × Bool)} {s : CSt} (h : LnAt W A l) (hs : SpO W nb sp dp most ob s) (hc : Chg (ChL sp dp ob) W W') : LnAt W' A l := fun i x hx => by
  obtain ⟨g, hA, ⟨cs, hh⟩, h1, h2⟩ := h i x hx
  obtain ⟨vb, a1, a2, a3, a4⟩ := hs
  obtain ⟨_, hd⟩ := a3.typed
  have hk : W'.heap[g]? = W.heap[g]? := hc.block g hh.lt (fun hk => by
    rcases hk with hk | hk | hk
    · exact hh.apart a1 (by decide) hk
    · exact hh.apart hd (by decide) hk
    · obtain ⟨_, _, h8⟩ := a2.own g (a4.trans hk)
      exact hh.apart h8 (by decide) rfl)
  exact ⟨g, hA, ⟨cs, hk.trans hh⟩, (World.cell?_of_block hk).trans h1, (World.cell?_of_block hk).trans h2⟩
theorem Lns.at {W : World} {n0 : Nat} {v : Value} {l : List (List UInt8 × Bool)} (h : Lns W n0 v l) : ∃ A c, v = .slice A l.length c ∧ LnAt W A l := by
  have ho := h.own
  obtain ⟨A, c, rfl, h2⟩ := h.shape
  refine ⟨A, c, rfl, fun i x hx => ?_⟩
  obtain ⟨g, rfl, _, hg, hc⟩ := h2 (by have := (List.getElem?_eq_some_iff.1 hx).1; omega)
  exact ⟨g, rfl, (ho g rfl).2, hc i x hx⟩
def WroteN (B sp dp most : Nat) (s : CSt) (x : List UInt8) (w0 w : World) (e : Ending) (w' : World) : Prop :=
  ∃ v, e = .returned (.tuple #[v, .int .i64 0]) ∧ Lns w' w.heap.size v (stepC most s x).1 ∧ SpN w' B sp dp most (stepC most s x).2 ∧ Below B w0 w' ∧ (∀ n0 v l, Lns w0 n0 v l → Lns w' n0 v l) ∧ (∀ A l, LnAt w0 A l → LnAt w' A l)
theorem writeN_any (B sp dp most : Nat) (s : CSt) (x : List UInt8) (A : Option Addr) (n c : Nat) (w0 w : World) (hs : SpN w0 B sp dp most s) (hb : Below w0.heap.size w0 w) (hok : s.ok most) (hm1 : 1 ≤ most) (hm : most ≤ 65536) (hn : n = x.length) (hc : n ≤ c) (hcm : c ≤ 9223372036854775807) (hl : n ≤ 4096)
    (hr : Rd w (fun k => k < w.heap.size ∧ (k < B ∨ w0.heap.size ≤ k)) A x) (hT : Tab w) (hE : Ends w) (_hTB : 0 < B) (hEB : 1 < B) (hB : B ≤ w0.heap.size) :
    Calls Tryd.prog 39 #[.pointer (some ⟨sp, 0, none⟩), .slice A n c] w (WroteN B sp dp most s x w0 w) := by
  obtain ⟨ob, h1, h2, h3⟩ := hs
  obtain ⟨l1, l2, _, l4⟩ := h1.lt
  have hCB : ∀ k, ChL sp dp ob k → B ≤ k ∧ k < w0.heap.size := fun k hk => by
    rcases hk with rfl | rfl | hk
    · exact ⟨h2, l1⟩
    · exact ⟨h3, l2⟩
    · exact ⟨(l4 k hk).2.2.2, (l4 k hk).1⟩
  have hbs := hb.size
  refine (writeL_any sp dp most B ob s x A n c w (h1.below hb) hok hm1 hm hn hc hcm hl (hr.mono (fun k hk => ⟨hk.1, fun hc => by have := hCB k hc; omega⟩)) hT hE (fun h => by have := hCB _ h; omega) (fun h => by have := hCB _ h; omega) hEB (by omega)).mono ?_
  rintro e w' ⟨v, ob', rfl, g1, g2, g3, g4⟩
  refine ⟨v, rfl, g1, ⟨ob', g2, h2, h3⟩, ?_, fun n0 u l hl => (hl.below hb).chg (h1.below hb) g4, fun A l hl => (hl.below hb).chg (h1.below hb) g4⟩
  exact (hb.trans (Below.refl _ _)).mono hB |>.trans (g4.below (fun k hk => (hCB k hk).1) (by omega))
def OfN (most : Nat) (x : List UInt8) (w : World) (e : Ending) (w' : World) : Prop :=
  ∃ v, e = .returned (.tuple #[v, .int .i64 0]) ∧ Lns w' w.heap.size v (stepC most init0 x).1 ∧ Below w.heap.size w w'
theorem Lns.mono {W : World} {n0 n1 : Nat} {v : Value} {l : List (List UInt8 × Bool)} (h : Lns W n0 v l) (hn : n1 ≤ n0) : Lns W n1 v l := by
  refine ⟨h.1, ?_⟩
  rcases h.2 with h | ⟨g, cap, cur, e, hb, r⟩
  · exact .inl h
  · exact .inr ⟨g, cap, cur, e, by omega, r⟩
set_option maxRecDepth 100000 in
theorem ofL_yes (most : Nat) (x : List UInt8) (A : Option Addr) (n c : Nat) (w : World) (hm1 : 1 ≤ most) (hm : most ≤ 65536) (hn : n = x.length) (hc : n ≤ c) (hcm : c ≤ 9223372036854775807) (hl : n ≤ 4096) (hr : Rd w (· < w.heap.size) A x) (hT : Tab w) (hE : Ends w) :
    Calls Tryd.prog 30 #[.int .i64 (most : Int), .slice A n c] w (OfN most x w) := by
  have hnew := Lib.hid (newL_yes w.heap.size most w hm1 hm)
  have hn' := Lib.hid hn
  have hr' := Lib.hid hr
  have hT' := Lib.hid hT
  have hE' := Lib.hid hE
  have t1 := hT.lt
  have t2 := hE.lt
  clear hn hr hT hE
  go_enter Tryd.func30, Tryd.ntmps30
  go_wp2_with (go_at_call 35; (with_reducible refine Calls.mono hnew.out ?_); rintro e w1 ⟨sp, rfl, dp, hsp, hdp, hs, hb⟩; have hs' := Lib.hid hs; have hb' := Lib.hid hb; clear hs hb)
  have z1 := hb'.out.size
  refine (writeN_any w.heap.size sp dp most init0 x A n c w1 w1 ⟨none, hs'.out, hsp, hdp⟩ (Below.refl _ _) (init0_ok most) hm1 hm hn'.out hc hcm hl ((hr'.out.kept (Kept.below hb'.out (fun k hk => hk))).mono (fun k hk => by have hk : k < w.heap.size := hk; exact ⟨by omega, .inl hk⟩)) (hT'.out.below hb'.out) (hE'.out.below hb'.out) t1 t2 z1).mono ?_
  rintro e w2 ⟨v, rfl, g1, _, g3, _⟩
  have g1' := Lib.hid g1
  have g3' := Lib.hid g3
  clear g1 g3
  obtain ⟨A2, c2, rfl, _⟩ := g1'.out.shape
  obtain ⟨m2, hm2⟩ : ∃ m2, (stepC most init0 x).1.length = m2 := ⟨_, rfl⟩
  rw [hm2]
  have g4 := g1'.out
  rw [hm2] at g4
  have g4' := Lib.hid g4
  clear g4 hm2
  go_wp2
  go_ret2
  exact ⟨_, rfl, g4'.out.mono z1, hb'.out.trans g3'.out⟩
set_option maxRecDepth 100000 in
theorem ofL_no (z : Int) (A : Option Addr) (n c : Nat) (w : World) (h : z < 1 ∨ 65536 < z) : Calls Tryd.prog 30 #[.int .i64 z, .slice A n c] w fun e w' => e = .returned (.tuple #[.slice none 0 0, .int .i64 2]) ∧ w = w' := by
  have hnew := Lib.hid (newL_no z w h)
  clear h
  go_enter Tryd.func30, Tryd.ntmps30
  go_wp2_with (go_at_call 35; (with_reducible refine Calls.mono hnew.out ?_); rintro e w1 ⟨rfl, rfl⟩)
  go_ret2
  exact ⟨rfl, rfl⟩

/-! ## The document's Same; lines of texts -/
theorem numLn_any (e : Int) (w : World) : Calls Tryd.prog 34 #[.int .i64 e] w fun r w' => r = .returned (.int .i64 e) ∧ w = w' := by
  go_enter Tryd.func34, Tryd.ntmps34
  go_wp2
  go_ret
  exact ⟨rfl, rfl⟩
theorem line_lits (a : List UInt8) (p : Bool) (h : a.length ≤ 1000000) : Tryd.prog.keyLits 2 70 [.string ⟨a.toArray⟩, .bool p] = some [.string a, .bool p] := by
  have k1 : Tryd.prog.cellsOf 9 = 1 := by kernel_rfl
  have k2 : Tryd.prog.cellsOf 70 = 2 := by kernel_rfl
  have k3 : Tryd.prog.cellsOf 4 = 1 := by kernel_rfl
  have hz : (⟨a.toArray⟩ : ByteArray).size ≤ maxLen := by
    show a.toArray.size ≤ _
    simp [maxLen]; omega
  simp [Program.keyLits, Tryd.underlying70, Tryd.underlying9, Tryd.underlying4, k1, k2, k3, hz]
theorem line_equal (a b : List UInt8) (p q : Bool) (ha : a.length ≤ 1000000) (hb : b.length ≤ 1000000) (w : World) :
    (Op.equalIn 10000 70 (.agg #[.string ⟨a.toArray⟩, .bool p]) (.agg #[.string ⟨b.toArray⟩, .bool q])).run Tryd.prog w = .ok (decide ((a, p) = (b, q))) w := by
  obtain ⟨r, hr, hiff⟩ := run_equalIn_deep (P := Tryd.prog) 9998 2 70 (by kernel_rfl) w 2 2 (.agg #[.string ⟨a.toArray⟩, .bool p]) (.agg #[.string ⟨b.toArray⟩, .bool q]) _ _ (by kernel_rfl) (by kernel_rfl) (line_lits a p ha) (line_lits b q hb)
  rw [hr]
  have : r = decide ((a, p) = (b, q)) := by
    cases r with
    | true =>
      have := hiff.1 rfl
      simp at this
      exact (decide_eq_true (by rw [this.1, this.2])).symm
    | false =>
      refine (decide_eq_false (fun h => ?_)).symm
      injection h with h1 h2
      have := hiff.2 (by rw [h1, h2])
      cases this
  rw [this]
theorem take_eq_succ {α : Type} {xs ys : List α} {k : Nat} {x y : α} (hx : xs[k]? = some x) (hy : ys[k]? = some y) (h : xs.take k = ys.take k) (e : x = y) : xs.take (k + 1) = ys.take (k + 1) := by
  rw [List.take_add_one, List.take_add_one, hx, hy, h, e]
set_option maxRecDepth 100000 in
set_option maxHeartbeats 2000000 in
theorem sameLn_any (A B : Option Addr) (xs ys : List (List UInt8 × Bool)) (n m c d : Nat) (w : World) (hn : n = xs.length) (hm : m = ys.length) (hA : LnAt w A xs) (hB : LnAt w B ys) (hxs : ∀ x ∈ xs, x.1.length ≤ 1000000) (hys : ∀ y ∈ ys, y.1.length ≤ 1000000) (hnm : n ≤ 1099511627776) (hmm : m ≤ 1099511627776) :
    Calls Tryd.prog 33 #[.slice A n c, .slice B m d] w fun e w' => e = .returned (.bool (decide (xs = ys))) ∧ Below w.heap.size w w' := by
  have hA' := Lib.hid hA
  have hB' := Lib.hid hB
  have hxs' := Lib.hid hxs
  have hys' := Lib.hid hys
  have hn' := Lib.hid hn
  have hm' := Lib.hid hm
  by_cases hl : n = m
  · subst hl
    clear hA hB hxs hys hn hm
    go_enter Tryd.func33, Tryd.ntmps33
    go_wp2
    go_loopw [5] (fun v W => ∃ k : Nat, v = .int .i64 (k : Int) ∧ k ≤ n ∧ xs.take k = ys.take k ∧ Below w.heap.size w W) (fun v _ => n - (intOf v).toNat)
    case atStart => exact ⟨0, rfl, Nat.zero_le _, by simp, Below.refl _ _⟩
    case round =>
      obtain ⟨k, rfl, hk, ht, hb⟩ := hrel
      have ht' := Lib.hid ht
      have hb' := Lib.hid hb
      clear ht hb
      by_cases hlt : k < n
      · obtain ⟨x, hx⟩ : ∃ x, xs[k]? = some x := ⟨xs[k]'(by have := hn'.out; omega), List.getElem?_eq_getElem (by have := hn'.out; omega)⟩
        obtain ⟨y, hy⟩ : ∃ y, ys[k]? = some y := ⟨ys[k]'(by have := hm'.out; omega), List.getElem?_eq_getElem (by have := hm'.out; omega)⟩
        obtain ⟨g, hgA, _, g1, g2⟩ := (hA'.out.below hb'.out) k x hx
        obtain ⟨g', hgB, _, g3, g4⟩ := (hB'.out.below hb'.out) k y hy
        subst hgA
        subst hgB
        have hx1 := hxs'.out x (List.mem_of_getElem? hx)
        have hy1 := hys'.out y (List.mem_of_getElem? hy)
        obtain ⟨xt, xb⟩ := x
        obtain ⟨yt, yb⟩ := y
        simp only at hx1 hy1 g1 g2 g3 g4
        have heq := fun w => line_equal xt yt xb yb hx1 hy1 w
        have hki : (k : Int) < (n : Int) := by omega
        have hx' := Lib.hid hx
        have hy' := Lib.hid hy
        clear hx hy
        by_cases he : (xt, xb) = (yt, yb)
        · rw [decide_eq_true he] at heq
          have he' := Lib.hid he
          clear he
          go_wp2
          go_quiet (fail)
          go_wp2
          refine ⟨⟨k + 1, by go_num, by omega, take_eq_succ hx'.out hy'.out ht'.out he'.out, below_draws hb'.out _⟩, by simp [intOf]; omega⟩
        · rw [decide_eq_false he] at heq
          have he' := Lib.hid he
          clear he
          go_wp2
          go_quiet (fail)
          go_wp2
          go_ret
          refine ⟨ret_bool (decide_eq_false (fun e => ?_)).symm, below_draws hb'.out _⟩
          have h1 := hx'.out
          rw [e, hy'.out] at h1
          exact he'.out (Option.some.inj h1).symm
      · obtain rfl : k = n := by omega
        go_wp2
        go_ret
        refine ⟨ret_bool (decide_eq_true ?_).symm, hb'.out⟩
        have h := ht'.out
        rwa [List.take_of_length_le (by have := hn'.out; omega), List.take_of_length_le (by have := hm'.out; omega)] at h
  · have hne : decide (xs = ys) = false := decide_eq_false (fun e => hl (by rw [hn, hm, e]))
    have hli : ¬ (n : Int) = (m : Int) := by omega
    rw [hne]
    clear hA hB hxs hys hn hm hne
    go_enter Tryd.func33, Tryd.ntmps33
    go_wp2
    go_ret
    exact ⟨rfl, Below.refl _ _⟩
end Go.Proofs.YthdmmlaahjgijaaDoor
