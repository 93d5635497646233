import Derived.Test.YtbmemkbfignlaaaGreatDoorPk47
import Derived.Test.YtbmemkbfignlaaaGreatDoorPk46
import Derived.Test.YtbmemkbfignlaaaGreatDoorPk18
import Derived.Test.YtbmemkbfignlaaaGreatDoorPk32
import Derived.Deep.AppendLies
import Derived.Deep.RegionLaw
namespace Go.Proofs.YtbmemkbfignlaaaGreatDoor
open Go.RowKit

/-! ## How long a target's parts are -/
theorem pairL_len {x : List UInt8} {q : PairL} (h : pairL x = some q) : q.1.length ≤ x.length ∧ q.2.length ≤ x.length := by
  unfold pairL at h
  split at h
  · rename_i k v h1 h2
    obtain rfl := Option.some.inj h
    have a := decL_len h1
    have b := decL_len h2
    rw [List.length_take] at a
    rw [List.length_drop] at b
    simp only
    omega
  · cases h
theorem partL_dec {x p : List UInt8} (h : partL x = some p) : decL false x = some p ∧ partB p = true := by
  unfold partL at h
  split at h
  · rename_i y hy
    split at h
    · obtain rfl := Option.some.inj h
      exact ⟨hy, by assumption⟩
    · cases h
  · cases h
theorem parse_few {s : List UInt8} {t : TgL} (h : parseTg s = some t) (hs : s.length ≤ 900) : t.1.length ≤ s.length + 1 ∧ t.2.length ≤ s.length + 1 ∧ (∀ x ∈ t.1, x.length ≤ s.length) ∧ ∀ q ∈ t.2, q.1.length ≤ s.length ∧ q.2.length ≤ s.length := by
  unfold parseTg at h
  split at h
  · cases hp : allL partL (betw 47 ((s.take (atL 63 s)).drop 1)) with
    | none => rw [hp] at h; simp at h
    | some p =>
      cases hq : allL pairL ((betw 38 (s.drop (atL 63 s + 1))).filter fun q => decide (q ≠ [])) with
      | none => rw [hp, hq] at h; simp at h
      | some q =>
        rw [hp, hq] at h
        obtain rfl := Option.some.inj h
        have l1 := allL_len hp
        have l2 := allL_len hq
        have m1 := partsG_many 47 ((s.take (atL 63 s)).drop 1)
        have m2 := partsG_many 38 (s.drop (atL 63 s + 1))
        have f2 := List.length_filter_le (fun q => decide (q ≠ [])) (betw 38 (s.drop (atL 63 s + 1)))
        rw [betw_parts] at l1 f2
        rw [← betw_parts] at f2
        rw [List.length_drop, List.length_take] at m1
        rw [List.length_drop] at m2
        rw [betw_parts] at f2
        refine ⟨by simp only; omega, by rw [betw_parts] at l2; simp only; omega, fun x hx => ?_, fun y hy => ?_⟩
        · obtain ⟨z, hz, hzx⟩ := allL_mem hp x hx
          have a := decL_len (partL_dec hzx).1
          have b := betw_all hz
          rw [List.length_drop, List.length_take] at b
          omega
        · obtain ⟨z, hz, hzx⟩ := allL_mem hq y hy
          have a := pairL_len hzx
          have b := betw_all (List.mem_filter.1 hz).1
          rw [List.length_drop] at b
          omega
  · cases h
end Go.Proofs.YtbmemkbfignlaaaGreatDoor

namespace Go.Proofs.YtbmemkbfignlaaaGreatDoor
open Go.RowKit Go.Shelf
attribute [local go_sem] Oper.semAt_some

/-! ## Status and Of, of a head that may be -/
structure FewHd (f : List UInt8) (l : List PairL) : Prop where
  first : f.length ≤ 900
  many : l.length ≤ 5
  each : ∀ q ∈ l, q.1.length ≤ 1000 ∧ q.2.length ≤ 1000
theorem FewHd.look {f : List UInt8} {l : List PairL} (h : FewHd f l) : FewLk (Rr.lkOf f l) := by
  have l1 := Ac.tw_len 32 f
  have l2 := Ac.bh_len 32 f
  have l3 := Ac.tw_len 32 (Ac.bh 32 f)
  have l4 := Ac.bh_len 32 (Ac.bh 32 f)
  have hf := h.first
  have ht : ((parseTg (Ac.tw 32 (Ac.bh 32 f))).getD ([], [])).1.length ≤ 1000 ∧ ∀ x ∈ ((parseTg (Ac.tw 32 (Ac.bh 32 f))).getD ([], [])).1, x.length ≤ 600000 := by
    cases hp : parseTg (Ac.tw 32 (Ac.bh 32 f)) with
    | none => exact ⟨by simp, fun x hx => by simp at hx⟩
    | some t =>
      obtain ⟨q1, q2, q3, q4⟩ := parse_few hp (by omega)
      exact ⟨by show t.1.length ≤ 1000; omega, fun x hx => by have := q3 x hx; omega⟩
  exact ⟨by show f.length ≤ 1000; omega, h.many, h.each, by show (Ac.tw 32 f).length ≤ 1000; omega, by show (Ac.bh 32 (Ac.bh 32 f)).length ≤ 1000; omega, ht.1, ht.2⟩
theorem FewHd.looked {f : List UInt8} {l : List PairL} (h : FewHd f l) (A : Option Addr) (c : Nat) (w : World) (hT : TabT w) (hx : Prs w A l) (hh : Rr.headB f l = true) :
    Calls Tryz.prog 37 #[.agg #[.string ⟨f.toArray⟩, .slice A l.length c]] w fun e w' => (∃ b, e = .returned (.pointer (some ⟨b, 0, none⟩)) ∧ LkF w' w.heap.size b (Rr.lkOf f l)) ∧ Below w.heap.size w w' :=
  looked_any f A c l w hT (by have := h.first; omega) h.many h.each hx hh
set_option maxRecDepth 100000 in
set_option maxHeartbeats 4000000 in
theorem statusH_any (f : List UInt8) (A : Option Addr) (c : Nat) (l : List PairL) (w : World) (hT : TabT w) (hF : FewHd f l) (hx : Prs w A l) (hh : Rr.headB f l = true) :
    Calls Tryz.prog 19 #[.agg #[.string ⟨f.toArray⟩, .slice A l.length c]] w fun e w' => e = .returned (.tuple #[.int .i64 (Rr.status (Rr.lkOf f l) : Int), .int .i64 0]) ∧ Below w.heap.size w w' := by
  obtain ⟨n, hn⟩ : ∃ n, w.heap.size = n := ⟨_, rfl⟩
  obtain ⟨w1, hw1⟩ : ∃ w1, w.alloc (.cells #[.string ⟨f.toArray⟩, .slice A l.length c] 28) = w1 := ⟨_, rfl⟩
  have hB1 : Below w.heap.size w w1 := by rw [← hw1]; exact (Below.refl _ _).alloc (Nat.le_refl _) _
  have z0 : Has w1 n 28 #[.string ⟨f.toArray⟩, .slice A l.length c] := by rw [← hw1, ← hn]; exact Has.new _ _ _
  have hz1 : w1.heap.size = n + 1 := by rw [← hw1, World.size_alloc, hn]
  obtain ⟨w2, hw2⟩ : ∃ w2, w1.alloc (.cells #[.int .i64 0] 3) = w2 := ⟨_, rfl⟩
  have hB2 : Below w1.heap.size w1 w2 := by rw [← hw2]; exact (Below.refl _ _).alloc (Nat.le_refl _) _
  have z1 : Has w2 (n + 1) 3 #[.int .i64 0] := by rw [← hw2, ← hz1]; exact Has.new _ _ _
  have hz2 : w2.heap.size = n + 2 := by rw [← hw2, World.size_alloc, hz1]
  have z02 := z0.below hB2 z0.lt
  have hB12 : Below w.heap.size w w2 := below_on hB1 hB2
  have hen := enters_of (P := Tryz.prog) Tryz.func42 (by kernel_rfl) rfl
  have hmf : ∀ (fn : Fn) (first cap : Array Value) (w : World), (Instr.makeFunc fn first cap).run Tryz.prog w = .ok (.func fn first cap) w := fun _ _ _ _ => rfl
  have hB3 : Below w2.heap.size w2 (w2.alloc (.cells #[.int .i64 0] 42)) := (Below.refl _ _).alloc (Nat.le_refl _) _
  have he3 := Has.new w2 42 #[.int .i64 0]
  obtain ⟨w3, hw3⟩ : ∃ w3, w2.alloc (.cells #[.int .i64 0] 42) = w3 := ⟨_, rfl⟩
  rw [hw3] at hB3 he3
  have hB123 : Below w.heap.size w w3 := below_on hB12 hB3
  have hlk := Lib.hid (hF.looked A c w3 (hT.below hB123) (hx.below hB123) hh)
  have hst := Lib.hid (fun b W (h : LkE W b (Rr.lkOf f l)) (hT : TabT W) => status_any b _ W h hF.look hT.2)
  generalize Rr.lkOf f l = L at *
  obtain ⟨s, hs⟩ : ∃ s, Rr.status L = s := ⟨_, rfl⟩
  rw [hs] at hst ⊢
  have hc1 : Calls Tryz.prog 42 #[.pointer (some ⟨n, 0, none⟩), .pointer (some ⟨n + 1, 0, none⟩)] w3 fun e w' => e = .returned (.tuple #[]) ∧ (Has w' (n + 1) 3 #[.int .i64 (s : Int)] ∧ Below n w w') ∧ Has w' w2.heap.size 42 #[.int .i64 0] := by
    have k0 := (z02.below hB3 z02.lt).cell 0
    have k1 := (z02.below hB3 z02.lt).cell 1
    have z13 := Lib.hid (z1.below hB3 z1.lt)
    have he3' := Lib.hid he3
    have hT3 := Lib.hid (hT.below hB123)
    have hB' := Lib.hid hB123
    clear hB1 hB2 hB3 he3 z0 z1 z02 hx hB12 hB123 hT hen
    go_enter Tryz.func42, Tryz.ntmps42
    go_wp2_with (first
      | (go_at_call 37; (with_reducible refine Calls.mono hlk.out ?_); rintro e w4 ⟨⟨b, rfl, hE⟩, hb4⟩; have hE' := Lib.hid hE.lk; have hb4' := Lib.hid hb4; have hT4 := Lib.hid (hT3.out.below hb4); clear hE hb4)
      | (go_at_call 38; (with_reducible refine Calls.mono (hst.out _ _ hE'.out hT4.out) ?_); rintro e w5 ⟨rfl, hb5⟩; have zf := (z13.out.below hb4'.out z13.out.lt).below hb5 (by have := hb4'.out.size; have := z13.out.lt; omega); have d0 := zf.cell 0; have f0 := zf.free 0; have hb5' := Lib.hid (below_on hb4'.out hb5); have zf' := Lib.hid zf; clear hb5 zf))
    go_end0
    have hbw := below_on hB'.out hb5'.out
    rw [hn] at hbw
    refine ⟨rfl, ⟨by simpa using zf'.out.put 0 (.int .i64 (s : Int)), hbw.setCell (p := ⟨n + 1, 0, none⟩) (by show n ≤ n + 1; omega) _⟩, other_has (he3'.out.below hb5'.out he3'.out.lt) (by omega) _⟩
  have ht := Lib.hid (triedR_yes 42 #[.pointer (some ⟨n, 0, none⟩), .pointer (some ⟨n + 1, 0, none⟩)] w2 (fun X => Has X (n + 1) 3 #[.int .i64 (s : Int)] ∧ Below n w X) hen
    (fun X u h => ⟨other_has h.1 (by omega) u, h.2.setCell (p := ⟨w2.heap.size, 0, none⟩) (by show n ≤ w2.heap.size; omega) u⟩) (by rw [hw3]; exact hc1))
  clear hB1 hB2 hB3 he3 z0 z1 z02 hx hB12 hB123 hT hen hc1 hlk hst
  go_enter Tryz.func19, Tryz.ntmps19
  go_wp2_with (go_at_call 31; (with_reducible refine Calls.mono ht.out ?_); rintro e w5 ⟨rfl, h5, hb5⟩; have d0 := h5.cell 0; have hb5' := Lib.hid hb5; clear h5 hb5)
  go_ret2
  exact ⟨rfl, by rw [hn]; exact hb5'.out⟩
end Go.Proofs.YtbmemkbfignlaaaGreatDoor

namespace Go.Proofs.YtbmemkbfignlaaaGreatDoor
open Go.RowKit Go.Shelf
attribute [local go_sem] Oper.semAt_some

/-! ## Of, of a head that is not refused -/
abbrev S7 (W : World) (k : Nat) (a b c d e f g : Value) : World := ((((((W.setCell ⟨k, 0, none⟩ a).setCell ⟨k, 1, none⟩ b).setCell ⟨k, 2, none⟩ c).setCell ⟨k, 3, none⟩ d).setCell ⟨k, 4, none⟩ e).setCell ⟨k, 5, none⟩ f).setCell ⟨k, 6, none⟩ g
theorem S7_has {W : World} {k : Nat} {t : TypeId} {a0 b0 c0 d0 e0 f0 g0 : Value} (h : Has W k t #[a0, b0, c0, d0, e0, f0, g0]) (a b c d e f g : Value) : Has (S7 W k a b c d e f g) k t #[a, b, c, d, e, f, g] := by
  simpa using ((((((h.put 0 a).put 1 b).put 2 c).put 3 d).put 4 e).put 5 f).put 6 g
theorem S7_other {W : World} {j k : Nat} {t : TypeId} {cs : Array Value} (h : Has W j t cs) (hn : j ≠ k) (a b c d e f g : Value) : Has (S7 W k a b c d e f g) j t cs :=
  other_has (other_has (other_has (other_has (other_has (other_has (other_has h hn _) hn _) hn _) hn _) hn _) hn _) hn _
theorem S7_below {B : Nat} {w W : World} (h : Below B w W) {k : Nat} (hk : B ≤ k) (a b c d e f g : Value) : Below B w (S7 W k a b c d e f g) :=
  ((((((h.setCell (p := ⟨k, 0, none⟩) hk a).setCell (p := ⟨k, 1, none⟩) hk b).setCell (p := ⟨k, 2, none⟩) hk c).setCell (p := ⟨k, 3, none⟩) hk d).setCell (p := ⟨k, 4, none⟩) hk e).setCell (p := ⟨k, 5, none⟩) hk f).setCell (p := ⟨k, 6, none⟩) hk g
theorem S7_txs {W : World} {B : Option Addr} {t : List (List UInt8)} {k n0 : Nat} (h : Txs W B t) (hf : ∀ b o, B = some ⟨b, o, none⟩ → n0 ≤ b) (hk : k < n0) (a b c d e f g : Value) : Txs (S7 W k a b c d e f g) B t :=
  ((((((h.off hf hk _).off hf hk _).off hf hk _).off hf hk _).off hf hk _).off hf hk _).off hf hk _
theorem S7_prs {W : World} {B : Option Addr} {t : List PairL} {k n0 : Nat} (h : Prs W B t) (hf : ∀ b o, B = some ⟨b, o, none⟩ → n0 ≤ b) (hk : k < n0) (a b c d e f g : Value) : Prs (S7 W k a b c d e f g) B t :=
  ((((((h.off hf hk _).off hf hk _).off hf hk _).off hf hk _).off hf hk _).off hf hk _).off hf hk _
/-- The seven cells of a request. -/
def rqC (m : List UInt8) (A1 : Option Addr) (n1 c1 : Nat) (A2 : Option Addr) (n2 c2 : Nat) (old has close : Bool) (id : List UInt8) : Array Value :=
  #[.string ⟨m.toArray⟩, .slice A1 n1 c1, .slice A2 n2 c2, .bool old, .bool has, .bool close, .string ⟨id.toArray⟩]
theorem LkF.setInt {W : World} {n0 b k : Nat} {L : Rr.Lk} {z : Int} (h : LkF W n0 b L) (hk : Has W k 3 #[.int .i64 z]) (u : Value) : LkF (W.setCell ⟨k, 0, none⟩ u) n0 b L := by
  obtain ⟨A, c, B1, c1, B2, c2, h1, h2, h3, h4, h5⟩ := h.box
  have hG := (Grew.refl k W).setT 0 u
  have hne : b ≠ k := fun e => by
    subst e
    have e1 := h1.cell 0
    have e2 := hk.cell 0
    rw [e1] at e2
    simp at e2
  exact ⟨A, c, B1, c1, B2, c2, other_has h1 hne u, h2.over hG (h2.apart hk (no_int z)), h3.over hG (h3.apart hk (no_int z)), h4.over hG (h4.apart hk (no_int z)), h5⟩
/-- What Of's deed has left. -/
def OfY (n : Nat) (L : Rr.Lk) (w X : World) : Prop := ∃ A1 c1 A2 c2, Has X (n + 1) 34 (rqC L.method A1 L.t.1.length c1 A2 L.t.2.length c2 false (decide (0 < (Rr.vals Rr.lidL L.l).length)) false (Rr.joinL (Rr.vals Rr.lidL L.l))) ∧ Has X (n + 2) 3 #[.int .i64 200] ∧
  Txs X A1 L.t.1 ∧ Prs X A2 L.t.2 ∧ (∀ b o, A1 = some ⟨b, o, none⟩ → n + 4 ≤ b) ∧ (∀ b o, A2 = some ⟨b, o, none⟩ → n + 4 ≤ b) ∧ Below n w X
theorem OfY.set {n : Nat} {L : Rr.Lk} {w X : World} (h : OfY n L w X) (u : Value) : OfY n L w (X.setCell ⟨n + 3, 0, none⟩ u) := by
  obtain ⟨A1, c1, A2, c2, h1, h2, h3, h4, h5, h6, h7⟩ := h
  exact ⟨A1, c1, A2, c2, other_has h1 (by omega) u, other_has h2 (by omega) u, h3.off h5 (by omega) u, h4.off h6 (by omega) u, h5, h6, h7.setCell (p := ⟨n + 3, 0, none⟩) (by show n ≤ n + 3; omega) u⟩
set_option maxRecDepth 100000 in
set_option maxHeartbeats 4000000 in
theorem of1_yes (n : Nat) (f : List UInt8) (A : Option Addr) (c : Nat) (l : List PairL) (w w3 : World) (hT0 : TabT w) (hn : w.heap.size = n) (hT : TabT w3) (hF : FewHd f l) (hx : Prs w3 A l) (hh : Rr.headB f l = true) (hs : Rr.status (Rr.lkOf f l) = 200) (hv : ((Rr.lkOf f l).version == Rr.olderL) = false) (hc : Rr.vals Rr.connL l = [])
    (z0 : Has w3 n 28 #[.string ⟨f.toArray⟩, .slice A l.length c]) (z1 : Has w3 (n + 1) 34 (rqC [] none 0 0 none 0 0 false false false [])) (z2 : Has w3 (n + 2) 3 #[.int .i64 0]) (z3 : Has w3 (n + 3) 42 #[.int .i64 0]) (hB : Below n w w3) (hz : w3.heap.size = n + 4) :
    Calls Tryz.prog 36 #[.pointer (some ⟨n, 0, none⟩), .pointer (some ⟨n + 2, 0, none⟩), .pointer (some ⟨n + 1, 0, none⟩)] w3 fun e w' => e = .returned (.tuple #[]) ∧ OfY n (Rr.lkOf f l) w w' ∧ Has w' (n + 3) 42 #[.int .i64 0] := by
  have hlk := Lib.hid (hF.looked A c w3 hT hx hh)
  have hst := Lib.hid (fun b W (h : LkE W b (Rr.lkOf f l)) (hT : TabT W) => status_any b _ W h hF.look hT.2)
  have hrq := Lib.hid (fun n0 b W (h : LkF W n0 b (Rr.lkOf f l)) (hT : TabT W) => request_any n0 b _ W h hF.look hT hv hc)
  have hm := Lib.hid (fun W => mustR_yes 230 W)
  generalize Rr.lkOf f l = L at *
  rw [hs] at hst
  have k0 := z0.cell 0
  have k1 := z0.cell 1
  have z1' := Lib.hid z1
  have z2' := Lib.hid z2
  have z3' := Lib.hid z3
  have hB' := Lib.hid hB
  have hT' := Lib.hid hT
  have hT0' := Lib.hid hT0
  unfold rqV at hrq
  clear hT hT0 hx hh hs hv hc z0 z1 z2 z3 hB
  go_enter Tryz.func36, Tryz.ntmps36
  go_wp2_with (first
    | (go_at_call 37; (with_reducible refine Calls.mono hlk.out ?_); rintro e w4 ⟨⟨b, rfl, hE⟩, hb4⟩; have hE' := Lib.hid hE; have hb4' := Lib.hid hb4; have hT4 := Lib.hid (hT'.out.below hb4); have hz4 := Lib.hid hb4.size; clear hE hb4)
    | (go_at_call 38; (with_reducible refine Calls.mono (hst.out _ _ hE'.out.lk hT4.out) ?_); rintro e w5 ⟨rfl, hb5⟩; have zf := (z2'.out.below hb4'.out z2'.out.lt).below hb5 (by have := hz4.out; have := z2'.out.lt; omega); have d0 := zf.cell 0; have f0 := zf.free 0; have hb5' := Lib.hid (below_on hb4'.out hb5); have hz5 := Lib.hid hb5.size; have hE5 := Lib.hid (hE'.out.below hb5); have hT5 := Lib.hid (hT4.out.below hb5); have zf' := Lib.hid zf; have zg := Lib.hid (show Has (w5.setCell ⟨n + 2, 0, none⟩ (.int .i64 200)) (n + 2) 3 #[.int .i64 200] from by simpa using zf.put 0 (.int .i64 200)); have d1 := zg.out.cell 0; have hE6 := Lib.hid ((hE'.out.below hb5).setInt zf (.int .i64 200)); have hB6 := Lib.hid (show Below n w (w5.setCell ⟨n + 2, 0, none⟩ (.int .i64 200)) from ((hB'.out.trans ((below_on hb4'.out hb5).mono (by omega))).setCell (p := ⟨n + 2, 0, none⟩) (by show n ≤ n + 2; omega) _)); have hT6 := Lib.hid (hT0'.out.below (by rw [hn]; exact hB6.out)); have z16 := Lib.hid (other_has ((z1'.out.below hb4'.out z1'.out.lt).below hb5 (by have := hz4.out; have := z1'.out.lt; omega)) (by omega) (.int .i64 200) : Has (w5.setCell ⟨n + 2, 0, none⟩ (.int .i64 200)) (n + 1) _ _); have z36 := Lib.hid (other_has ((z3'.out.below hb4'.out z3'.out.lt).below hb5 (by have := hz4.out; have := z3'.out.lt; omega)) (by omega) (.int .i64 200) : Has (w5.setCell ⟨n + 2, 0, none⟩ (.int .i64 200)) (n + 3) _ _); have hz6 := Lib.hid (show n + 4 ≤ (w5.setCell ⟨n + 2, 0, none⟩ (.int .i64 200)).heap.size by have := hz4.out; have := hb5.size; simp [World.setCell]; omega); clear hb5 zf)
    | (go_at_call 39; (with_reducible refine Calls.mono (hm.out _) ?_); rintro e w8 ⟨rfl, hw8⟩; obtain rfl := hw8.symm)
    | (go_at_call 40; (with_reducible refine Calls.mono (hrq.out _ _ _ hE6.out hT6.out) ?_); rintro e w7 ⟨⟨A1, c1, A2, c2, rfl, ht, hp, hf1, hf2⟩, hb7⟩; have z17 := z16.out.below hb7 z16.out.lt; unfold rqC at z17; have e0 := z17.cell 0; have g0 := z17.free 0; have e1 := z17.cell 1; have g1 := z17.free 1; have e2 := z17.cell 2; have g2 := z17.free 2; have e3 := z17.cell 3; have g3 := z17.free 3; have e4 := z17.cell 4; have g4 := z17.free 4; have e5 := z17.cell 5; have g5 := z17.free 5; have e6 := z17.cell 6; have g6 := z17.free 6; have z17' := Lib.hid z17; have z27 := Lib.hid (zg.out.below hb7 zg.out.lt); have z37 := Lib.hid (z36.out.below hb7 z36.out.lt); have hB7 := Lib.hid (hB6.out.trans (hb7.mono (by have := hz6.out; omega))); have ht' := Lib.hid ht; have hp' := Lib.hid hp; have hf1' := Lib.hid hf1; have hf2' := Lib.hid hf2; clear z17 hb7 ht hp hf1 hf2))
  go_end0
  have f1 : ∀ b o, A1 = some ⟨b, o, none⟩ → n + 4 ≤ b := fun b o e => by have := hf1'.out b o e; omega
  have f2 : ∀ b o, A2 = some ⟨b, o, none⟩ → n + 4 ≤ b := fun b o e => by have := hf2'.out b o e; omega
  exact ⟨rfl, ⟨A1, c1, A2, c2, S7_has z17'.out _ _ _ _ _ _ _, S7_other z27.out (by omega) _ _ _ _ _ _ _, S7_txs ht'.out f1 (by omega) _ _ _ _ _ _ _, S7_prs hp'.out f2 (by omega) _ _ _ _ _ _ _, f1, f2, S7_below hB7.out (by omega) _ _ _ _ _ _ _⟩, S7_other z37.out (by omega) _ _ _ _ _ _ _⟩
set_option maxRecDepth 100000 in
set_option maxHeartbeats 8000000 in
theorem of_yes (f : List UInt8) (A : Option Addr) (c : Nat) (l : List PairL) (w : World) (hT : TabT w) (hF : FewHd f l) (hx : Prs w A l) (hh : Rr.headB f l = true) (hs : Rr.status (Rr.lkOf f l) = 200) (hv : ((Rr.lkOf f l).version == Rr.olderL) = false) (hc : Rr.vals Rr.connL l = []) :
    Calls Tryz.prog 16 #[.agg #[.string ⟨f.toArray⟩, .slice A l.length c]] w fun e w' =>
      (∃ A1 c1 A2 c2, e = .returned (.tuple #[rqV (Rr.lkOf f l).method A1 (Rr.lkOf f l).t.1.length c1 A2 (Rr.lkOf f l).t.2.length c2 false (decide (0 < (Rr.vals Rr.lidL l).length)) false (Rr.joinL (Rr.vals Rr.lidL l)), .int .i64 200, .int .i64 0]) ∧ Txs w' A1 (Rr.lkOf f l).t.1 ∧ Prs w' A2 (Rr.lkOf f l).t.2) ∧ Below w.heap.size w w' := by
  obtain ⟨n, hn⟩ : ∃ n, w.heap.size = n := ⟨_, rfl⟩
  obtain ⟨w1, hw1⟩ : ∃ w1, w.alloc (.cells #[.string ⟨f.toArray⟩, .slice A l.length c] 28) = w1 := ⟨_, rfl⟩
  have hB1 : Below w.heap.size w w1 := by rw [← hw1]; exact (Below.refl _ _).alloc (Nat.le_refl _) _
  have z0 : Has w1 n 28 #[.string ⟨f.toArray⟩, .slice A l.length c] := by rw [← hw1, ← hn]; exact Has.new _ _ _
  have hz1 : w1.heap.size = n + 1 := by rw [← hw1, World.size_alloc, hn]
  obtain ⟨w2, hw2⟩ : ∃ w2, w1.alloc (.cells #[.string ⟨#[]⟩, .slice none 0 0, .slice none 0 0, .bool false, .bool false, .bool false, .string ⟨#[]⟩] 34) = w2 := ⟨_, rfl⟩
  have hB2 : Below w1.heap.size w1 w2 := by rw [← hw2]; exact (Below.refl _ _).alloc (Nat.le_refl _) _
  have z1 : Has w2 (n + 1) 34 (rqC [] none 0 0 none 0 0 false false false []) := by rw [← hw2, ← hz1]; exact Has.new _ _ _
  have hz2 : w2.heap.size = n + 2 := by rw [← hw2, World.size_alloc, hz1]
  obtain ⟨w3, hw3⟩ : ∃ w3, w2.alloc (.cells #[.int .i64 0] 3) = w3 := ⟨_, rfl⟩
  have hB3 : Below w2.heap.size w2 w3 := by rw [← hw3]; exact (Below.refl _ _).alloc (Nat.le_refl _) _
  have z2 : Has w3 (n + 2) 3 #[.int .i64 0] := by rw [← hw3, ← hz2]; exact Has.new _ _ _
  have hz3 : w3.heap.size = n + 3 := by rw [← hw3, World.size_alloc, hz2]
  obtain ⟨w4, hw4⟩ : ∃ w4, w3.alloc (.cells #[.int .i64 0] 42) = w4 := ⟨_, rfl⟩
  have hB4 : Below w3.heap.size w3 w4 := by rw [← hw4]; exact (Below.refl _ _).alloc (Nat.le_refl _) _
  have z3 : Has w4 (n + 3) 42 #[.int .i64 0] := by rw [← hw4, ← hz3]; exact Has.new _ _ _
  have hz4 : w4.heap.size = n + 4 := by rw [← hw4, World.size_alloc, hz3]
  have hBb : Below w.heap.size w w4 := below_on (below_on (below_on hB1 hB2) hB3) hB4
  have hen := enters_of (P := Tryz.prog) Tryz.func36 (by kernel_rfl) rfl
  have hmf : ∀ (fn : Fn) (first cap : Array Value) (w : World), (Instr.makeFunc fn first cap).run Tryz.prog w = .ok (.func fn first cap) w := fun _ _ _ _ => rfl
  have hc1 := of1_yes n f A c l w w4 hT hn (hT.below hBb) hF (hx.below hBb) hh hs hv hc
    (((z0.below hB2 (by omega)).below hB3 (by omega)).below hB4 (by omega)) ((z1.below hB3 (by omega)).below hB4 (by omega)) (z2.below hB4 (by omega)) z3 (by rw [← hn]; exact hBb) hz4
  have ht := Lib.hid (triedR_yes 36 #[.pointer (some ⟨n, 0, none⟩), .pointer (some ⟨n + 2, 0, none⟩), .pointer (some ⟨n + 1, 0, none⟩)] w3 (OfY n (Rr.lkOf f l) w) hen (fun X u h => by rw [hz3]; exact h.set u) (by rw [hw4, hz3]; exact hc1))
  have hl : (Rr.lkOf f l).l = l := rfl
  generalize Rr.lkOf f l = L at *
  unfold OfY at ht
  rw [hl] at ht
  unfold rqV
  clear hB1 hB2 hB3 hB4 z0 z1 z2 z3 hx hBb hT hen hc1 hh hs hv hc
  go_enter Tryz.func16, Tryz.ntmps16
  go_wp2_with (go_at_call 31; (with_reducible refine Calls.mono ht.out ?_); rintro e w5 ⟨rfl, A1, c1, A2, c2, h1, h2, h3, h4, h5, h6, h7⟩; unfold rqC at h1; have e0 := h1.cell 0; have g0 := h1.free 0; have e1 := h1.cell 1; have g1 := h1.free 1; have e2 := h1.cell 2; have g2 := h1.free 2; have e3 := h1.cell 3; have g3 := h1.free 3; have e4 := h1.cell 4; have g4 := h1.free 4; have e5 := h1.cell 5; have g5 := h1.free 5; have e6 := h1.cell 6; have g6 := h1.free 6; have d0 := h2.cell 0; have d1 := h2.free 0; have h1' := Lib.hid h1; have h2' := Lib.hid h2; have h3' := Lib.hid h3; have h4' := Lib.hid h4; have h5' := Lib.hid h5; have h6' := Lib.hid h6; have h7' := Lib.hid h7; clear h1 h2 h3 h4 h5 h6 h7)
  go_region
  go_wp2
  have kf := other_has (i := 0) (S7_has h1'.out (.string ⟨L.method.toArray⟩) (.slice A1 L.t.1.length c1) (.slice A2 L.t.2.length c2) (.bool false) (.bool (decide (0 < (Rr.vals Rr.lidL l).length))) (.bool false) (.string ⟨(Rr.joinL (Rr.vals Rr.lidL l)).toArray⟩)) (show n + 1 ≠ n + 2 by omega) (.int .i64 200)
  have kg := (S7_other h2'.out (show n + 2 ≠ n + 1 by omega) (.string ⟨L.method.toArray⟩) (.slice A1 L.t.1.length c1) (.slice A2 L.t.2.length c2) (.bool false) (.bool (decide (0 < (Rr.vals Rr.lidL l).length))) (.bool false) (.string ⟨(Rr.joinL (Rr.vals Rr.lidL l)).toArray⟩)).put 0 (.int .i64 200)
  have hBf := (S7_below h7'.out (show n ≤ n + 1 by omega) (.string ⟨L.method.toArray⟩) (.slice A1 L.t.1.length c1) (.slice A2 L.t.2.length c2) (.bool false) (.bool (decide (0 < (Rr.vals Rr.lidL l).length))) (.bool false) (.string ⟨(Rr.joinL (Rr.vals Rr.lidL l)).toArray⟩)).setCell (p := ⟨n + 2, 0, none⟩) (by show n ≤ n + 2; omega) (.int .i64 200)
  have htf := (S7_txs h3'.out h5'.out (show n + 1 < n + 4 by omega) (.string ⟨L.method.toArray⟩) (.slice A1 L.t.1.length c1) (.slice A2 L.t.2.length c2) (.bool false) (.bool (decide (0 < (Rr.vals Rr.lidL l).length))) (.bool false) (.string ⟨(Rr.joinL (Rr.vals Rr.lidL l)).toArray⟩)).off h5'.out (show n + 2 < n + 4 by omega) (i := 0) (.int .i64 200)
  have hpf := (S7_prs h4'.out h6'.out (show n + 1 < n + 4 by omega) (.string ⟨L.method.toArray⟩) (.slice A1 L.t.1.length c1) (.slice A2 L.t.2.length c2) (.bool false) (.bool (decide (0 < (Rr.vals Rr.lidL l).length))) (.bool false) (.string ⟨(Rr.joinL (Rr.vals Rr.lidL l)).toArray⟩)).off h6'.out (show n + 2 < n + 4 by omega) (i := 0) (.int .i64 200)
  obtain ⟨wf, hwf⟩ : ∃ wf, (S7 w5 (n + 1) (.string ⟨L.method.toArray⟩) (.slice A1 L.t.1.length c1) (.slice A2 L.t.2.length c2) (.bool false) (.bool (decide (0 < (Rr.vals Rr.lidL l).length))) (.bool false) (.string ⟨(Rr.joinL (Rr.vals Rr.lidL l)).toArray⟩)).setCell ⟨n + 2, 0, none⟩ (.int .i64 200) = wf := ⟨_, rfl⟩
  rw [hwf] at kf kg hBf htf hpf
  try unfold S7 at hwf
  try rw [hwf]
  have y0 : wf.drew.cell? ⟨n + 1, 0, none⟩ = some (.string ⟨L.method.toArray⟩) := by have := kf.drew.cell 0; simpa using this
  have y1 : wf.drew.cell? ⟨n + 1, 1, none⟩ = some (.slice A1 L.t.1.length c1) := by have := kf.drew.cell 1; simpa using this
  have y2 : wf.drew.cell? ⟨n + 1, 2, none⟩ = some (.slice A2 L.t.2.length c2) := by have := kf.drew.cell 2; simpa using this
  have y3 : wf.drew.cell? ⟨n + 1, 3, none⟩ = some (.bool false) := by have := kf.drew.cell 3; simpa using this
  have y4 : wf.drew.cell? ⟨n + 1, 4, none⟩ = some (.bool (decide (0 < (Rr.vals Rr.lidL l).length))) := by have := kf.drew.cell 4; simpa using this
  have y5 : wf.drew.cell? ⟨n + 1, 5, none⟩ = some (.bool false) := by have := kf.drew.cell 5; simpa using this
  have y6 : wf.drew.cell? ⟨n + 1, 6, none⟩ = some (.string ⟨(Rr.joinL (Rr.vals Rr.lidL l)).toArray⟩) := by have := kf.drew.cell 6; simpa using this
  have y7 : wf.drew.cell? ⟨n + 2, 0, none⟩ = some (.int .i64 200) := by have := kg.drew.cell 0; simpa using this
  refine bodyPost_ret (v := .tuple #[.agg #[.string ⟨L.method.toArray⟩, .slice A1 L.t.1.length c1, .slice A2 L.t.2.length c2, .bool false, .bool (decide (0 < (Rr.vals Rr.lidL l).length)), .bool false, .string ⟨(Rr.joinL (Rr.vals Rr.lidL l)).toArray⟩], .int .i64 200, .int .i64 0]) (by simp [results, Tryz.results16, go_sem, y0, y1, y2, y3, y4, y5, y6, y7]) rfl ?_
  have hd : Below wf.heap.size wf wf.drew := (Below.refl _ _).drew
  exact ⟨⟨A1, c1, A2, c2, rfl, htf.below hd, hpf.below hd⟩, by rw [hn]; exact hBf.drew⟩
end Go.Proofs.YtbmemkbfignlaaaGreatDoor

namespace Go.Proofs.YtbmemkbfignlaaaGreatDoor
open Go.RowKit Go.Shelf Go.Deep
attribute [local go_sem] Oper.semAt_some
attribute [local go_sem] wideF_fn wideF_depth wideF_round

/-! ## Heads that a law makes -/
theorem hdrIn_append {F : Fence} {n : Nat} {w : World} {ops : Array Oper} {rest : List Oper} {o : Oper} {a : Act} {Q : Exit → Act → World → Prop} {n0 : Nat} {v : Value} {l : List PairL} (hgd : o.guard = none) (s x : Operand) (ho : o.op = .call { callee := .builtin .append, args := #[s, x], argTypes := #[26, 26] }) (hsv : a.eval s = v) (hv : HdsO w n0 v l)
    (k : Nat) (q : PairL) (hxv : a.eval x = .slice (some ⟨k, 0, none⟩) 1 1) (hx : Has w k 56 #[.string ⟨q.1.toArray⟩, .string ⟨q.2.toArray⟩]) (hs : l.length + 1 ≤ 1000000) (hn : n0 ≤ w.heap.size)
    (h : ∀ v' w', HdsO w' n0 v' (l ++ [q]) → w.grownBy w' v.ownBlock → wpListIn F n Tryz.prog ops Q rest (a.put o.dst v') w') : wpListIn F n Tryz.prog ops Q (o :: rest) a w := by
  obtain ⟨i, hi, hz, hz1, hz2⟩ := info_parts infoHdr
  refine wpListIn_append_at w hgd s x 26 ho n0 56 i _ 2 32 Tryz.underlying26 hi hz hz1 hz2 rfl (by decide) v l.length (prsC l) hsv hv ⟨k, 0, none⟩ 1 1 (prsC [q]) hxv rfl (fun j u hu => ?_) (prsC_one _) (by simp only [maxLen]; omega) (by omega) hn (fun v' w' h1 h2 _ => h v' w' ?_ h2)
  · rw [addr0, hx.cell]
    simpa [prsC] using hu
  · unfold HdsO
    rw [List.length_append, List.length_singleton, prsC_append]
    exact h1
set_option maxRecDepth 100000 in
theorem of0_any (f : List UInt8) (w : World) : Calls Tryz.prog 18 #[.string ⟨f.toArray⟩, .slice none 0 0] w fun e w' => e = .returned (.agg #[.string ⟨f.toArray⟩, .slice none 0 0]) ∧ Below w.heap.size w w' := by
  obtain ⟨n, hn⟩ : ∃ n, w.heap.size = n := ⟨_, rfl⟩
  obtain ⟨w1, hw1⟩ : ∃ w1, w.alloc (.cells #[.string ⟨#[]⟩, .slice none 0 0] 28) = w1 := ⟨_, rfl⟩
  have hB1 : Below w.heap.size w w1 := by rw [← hw1]; exact (Below.refl _ _).alloc (Nat.le_refl _) _
  have z0 : Has w1 n 28 #[.string ⟨#[]⟩, .slice none 0 0] := by rw [← hw1, ← hn]; exact Has.new _ _ _
  have hz1 : w1.heap.size = n + 1 := by rw [← hw1, World.size_alloc, hn]
  have z0' := Lib.hid z0
  have hB1' := Lib.hid hB1
  clear z0 hB1
  go_enter Tryz.func18, Tryz.ntmps18
  go_upto_region 2 with (fail)
  have hB2 := (Below.refl w1.heap.size w1).alloc (Nat.le_refl _) (.cells #[.string ⟨f.toArray⟩, .slice none 0 0] 28)
  have z1 := Has.new w1 28 #[.string ⟨f.toArray⟩, .slice none 0 0]
  obtain ⟨w2, hw2⟩ : ∃ w2, w1.alloc (.cells #[.string ⟨f.toArray⟩, .slice none 0 0] 28) = w2 := ⟨_, rfl⟩
  rw [hw2] at hB2 z1
  rw [hz1] at z1
  try rw [hw2]
  try rw [hz1]
  have k0 := z1.cell 0
  have k1 := z1.cell 1
  have z02 := z0'.out.below hB2 z0'.out.lt
  have e0 := z02.cell 0
  have e1 := z02.cell 1
  have f0 := z02.free 0
  have f1 := z02.free 1
  have z02' := Lib.hid z02
  have hB2' := Lib.hid (below_on hB1'.out hB2)
  clear z02 hB2 z1 hw2
  go_wp2
  go_loopw [6] (fun x W => x = .int .i64 0 ∧ W = w2) (fun _ _ => 0)
  case atStart => exact ⟨rfl, rfl⟩
  case round =>
    obtain ⟨rfl, rfl⟩ := hrel
    go_wp2
    have hBf := hB2'.out
    rw [hn] at hBf
    have y0 : ∀ a b, ((wr.setCell ⟨n, 0, none⟩ a).setCell ⟨n, 1, none⟩ b).cell? ⟨n, 0, none⟩ = some a := fun a b => ((z02'.out.put 0 a).put 1 b).cell 0
    have y1 : ∀ a b, ((wr.setCell ⟨n, 0, none⟩ a).setCell ⟨n, 1, none⟩ b).cell? ⟨n, 1, none⟩ = some b := fun a b => ((z02'.out.put 0 a).put 1 b).cell 1
    refine bodyPost_ret (v := .agg #[.string ⟨f.toArray⟩, .slice none 0 0]) (by simp [results, Tryz.results18, go_sem, y0, y1]) rfl ⟨rfl, ?_⟩
    rw [hn]
    exact (hBf.setCell (p := ⟨n, 0, none⟩) (Nat.le_refl _) _).setCell (p := ⟨n, 1, none⟩) (Nat.le_refl _) _
set_option maxRecDepth 100000 in
set_option maxHeartbeats 4000000 in
theorem of2_any (f a b : List UInt8) (g : Nat) (w : World) (hg : Has w g 9 #[.string ⟨a.toArray⟩, .string ⟨b.toArray⟩]) : Calls Tryz.prog 18 #[.string ⟨f.toArray⟩, .slice (some ⟨g, 0, none⟩) 2 2] w fun e w' =>
    (∃ A c, e = .returned (.agg #[.string ⟨f.toArray⟩, .slice A 1 c]) ∧ Prs w' A [(a, b)]) ∧ Below w.heap.size w w' := by
  obtain ⟨n, hn⟩ : ∃ n, w.heap.size = n := ⟨_, rfl⟩
  obtain ⟨w1, hw1⟩ : ∃ w1, w.alloc (.cells #[.string ⟨#[]⟩, .slice none 0 0] 28) = w1 := ⟨_, rfl⟩
  have hB1 : Below w.heap.size w w1 := by rw [← hw1]; exact (Below.refl _ _).alloc (Nat.le_refl _) _
  have z0 : Has w1 n 28 #[.string ⟨#[]⟩, .slice none 0 0] := by rw [← hw1, ← hn]; exact Has.new _ _ _
  have hz1 : w1.heap.size = n + 1 := by rw [← hw1, World.size_alloc, hn]
  have z0' := Lib.hid z0
  have hB1' := Lib.hid hB1
  have hg' := Lib.hid hg
  have hgn : g < n := by have := hg.lt; omega
  clear z0 hB1 hg
  go_enter Tryz.func18, Tryz.ntmps18
  go_upto_region 2 with (fail)
  have hB2 := (Below.refl w1.heap.size w1).alloc (Nat.le_refl _) (.cells #[.string ⟨f.toArray⟩, .slice none 0 0] 28)
  have z1 := Has.new w1 28 #[.string ⟨f.toArray⟩, .slice none 0 0]
  obtain ⟨w2, hw2⟩ : ∃ w2, w1.alloc (.cells #[.string ⟨f.toArray⟩, .slice none 0 0] 28) = w2 := ⟨_, rfl⟩
  have hz2 : w2.heap.size = n + 2 := by rw [← hw2, World.size_alloc, hz1]
  rw [hw2] at hB2 z1
  rw [hz1] at z1
  try rw [hw2]
  try rw [hz1]
  have z02' := Lib.hid (z0'.out.below hB2 z0'.out.lt)
  have hB2' := Lib.hid (below_on hB1'.out hB2)
  have hg2 := Lib.hid (hg'.out.below hB2'.out hg'.out.lt)
  have z12' := Lib.hid z1
  clear hB2 z1 hw2
  go_wp2
  go_loopw [6] (fun x W => (x = .int .i64 0 ∧ W = w2) ∨ (x = .int .i64 2 ∧ ∃ A c, Has W (n + 1) 28 #[.string ⟨f.toArray⟩, .slice A 1 c] ∧ Has W n 28 #[.string ⟨#[]⟩, .slice none 0 0] ∧ HdsO W (n + 2) (.slice A 1 c) [(a, b)] ∧ Below n w W)) (fun x _ => 2 - (intOf x).toNat)
  case atStart => exact .inl ⟨rfl, rfl⟩
  case round =>
    rcases hrel with ⟨rfl, rfl⟩ | ⟨rfl, A, c, h1, h2, h3, h4⟩
    · have k0 := fun (V' : Grown wr) => (z12'.out.below V'.below z12'.out.lt).cell 1
      have s0 := fun (V' : Grown wr) => (hg2.out.below V'.below hg2.out.lt).cell 0
      have s1 := fun (V' : Grown wr) => (hg2.out.below V'.below hg2.out.lt).cell 1
      go_upto_region 5 with (fail)
      have kW := (z12'.out.alloc (.cells #[.string ⟨a.toArray⟩, .string ⟨b.toArray⟩] 56)).drew
      have kZ := (z02'.out.alloc (.cells #[.string ⟨a.toArray⟩, .string ⟨b.toArray⟩] 56)).drew
      have kN := (Has.new wr 56 #[.string ⟨a.toArray⟩, .string ⟨b.toArray⟩]).drew
      rw [hz2] at kN
      have bW : Below wr.heap.size wr (wr.alloc (.cells #[.string ⟨a.toArray⟩, .string ⟨b.toArray⟩] 56)).drew := ((Below.refl _ _).alloc (Nat.le_refl _) _).drew
      have hzz : (wr.alloc (.cells #[.string ⟨a.toArray⟩, .string ⟨b.toArray⟩] 56)).drew.heap.size = n + 3 := by show (wr.alloc _).heap.size = _; rw [World.size_alloc, hz2]
      have r0 := z12'.out.drew.cell 1
      have q0 := hg2.out.drew.cell 0
      have q1 := hg2.out.drew.cell 1
      have kW' := Lib.hid kW
      have kZ' := Lib.hid kZ
      have kN' := Lib.hid kN
      have bW' := Lib.hid bW
      have hzd : wr.drew.heap.size = n + 2 := hz2
      have hwr : IntKind.i64.wrap ((0 : Int) + 1) = 1 := by decide
      have hwr2 : IntKind.i64.wrap (1 : Int) = 1 := by decide
      have r9 := kW'.out.cell 1
      clear kW kZ kN bW k0 s0 s1
      obtain ⟨i, hi, hz, hz1', hz2'⟩ := info_parts infoHdr
      go_region_law
        (first
          | (refine step_append_lies _ rfl (.tmp 17) (.tmp 28) 26 (by rfl) (n + 2) 56 i _ 2 32 Tryz.underlying26 hi hz hz1' hz2' rfl (by decide) (.slice none 0 0) 0 [] (by rfl) (hdsO_nil _ _) ⟨n + 2, 0, none⟩ 1 1 (prsC [(a, b)]) (by rfl) rfl (fun j u hu => by rw [addr0, kN'.out.cell]; simpa [prsC] using hu) (prsC_one _) (by decide) (by simp [maxLen]) (by simp) (by rw [hzz]; omega) (n + 3) hzz ?_
             intro g5 cap5 w5 hv5 hg5 ho5 hlt5
             have k5 : Has w5 (n + 1) 28 _ := (hg5.block _ kW'.out.lt (fun e => by cases e)).trans kW'.out
             have kz5 : Has w5 n 28 _ := (hg5.block _ kZ'.out.lt (fun e => by cases e)).trans kZ'.out
             have b5 := bW'.out.grown hg5 (by rw [hzz]; omega) (fun g e => by cases e)
             have x1 := k5.cell 1
             have y1 := k5.free 1
             have hv5' := Lib.hid hv5
             have k5' := Lib.hid k5
             have kz5' := Lib.hid kz5
             have b5' := Lib.hid b5
             clear hv5 hg5 ho5 k5 kz5 b5)
          | fail)
      go_wp2
      all_goals
        have hv6 : HdsO w5 (n + 2) (.slice (some ⟨g5, 0, none⟩) 1 cap5) [(a, b)] := hv5'.out
        have hbf := (hB2'.out.mono (Nat.le_refl _)).trans (b5'.out.mono hB2'.out.size)
        rw [hn] at hbf
        refine ⟨.inr ⟨rfl, some ⟨g5, 0, none⟩, cap5, by simpa using k5'.out.put 1 (.slice (some ⟨g5, 0, none⟩) 1 cap5), other_has kz5'.out (by omega) _, ?_, hbf.setCell (p := ⟨n + 1, 1, none⟩) (by show n ≤ n + 1; omega) _⟩, by simp [intOf]⟩
        refine hv6.kept fun g hg => Below.heap_setCell _ ⟨n + 1, 1, none⟩ _ g ?_
        have := (hv6.own g hg).1
        show g ≠ n + 1
        omega
    · have e0 := h1.cell 0
      have e1 := h1.cell 1
      have d0 := h2.cell 0
      have d1 := h2.cell 1
      have f0 := h2.free 0
      have f1 := h2.free 1
      have h2' := Lib.hid h2
      have h3' := Lib.hid h3
      have h4' := Lib.hid h4
      clear h1 h2 h3 h4
      go_wp2
      have y0 : ∀ a b, ((wr.setCell ⟨n, 0, none⟩ a).setCell ⟨n, 1, none⟩ b).cell? ⟨n, 0, none⟩ = some a := fun a b => ((h2'.out.put 0 a).put 1 b).cell 0
      have y1 : ∀ a b, ((wr.setCell ⟨n, 0, none⟩ a).setCell ⟨n, 1, none⟩ b).cell? ⟨n, 1, none⟩ = some b := fun a b => ((h2'.out.put 0 a).put 1 b).cell 1
      refine bodyPost_ret (v := .agg #[.string ⟨f.toArray⟩, .slice A 1 c]) (by simp [results, Tryz.results18, go_sem, y0, y1]) rfl ⟨⟨A, c, rfl, ?_⟩, ?_⟩
      · have hk := h3'.out.kept (W' := (wr.setCell ⟨n, 0, none⟩ (.string ⟨f.toArray⟩)).setCell ⟨n, 1, none⟩ (.slice A 1 c)) (fun g hg => by
          have := (h3'.out.own g hg).1
          exact (Below.heap_setCell _ ⟨n, 1, none⟩ _ g (by show g ≠ n; omega)).trans (Below.heap_setCell _ ⟨n, 0, none⟩ _ g (by show g ≠ n; omega)))
        obtain ⟨A', c', e, hp⟩ := hk.prs
        injection e with e1 _ _
        subst e1
        exact hp
      · rw [hn]
        exact (h4'.out.setCell (p := ⟨n, 0, none⟩) (Nat.le_refl _) _).setCell (p := ⟨n, 1, none⟩) (Nat.le_refl _) _
end Go.Proofs.YtbmemkbfignlaaaGreatDoor
