import Derived.Test.YtlcfpnegpihicaaGreatDoorPw23
import Derived.Test.YtlcfpnegpihicaaGreatDoorPw20
import Derived.Test.YtlcfpnegpihicaaGreatDoorPw19
import Derived.Test.YtlcfpnegpihicaaGreatDoorPw17
import Derived.Lib.SlBytesConst
import Derived.Test.YtlcfpnegpihicaaGreatDoorPw3
import Derived.Test.YtlcfpnegpihicaaGreatDoorPw4
import Derived.Test.YtlcfpnegpihicaaGreatDoorPw18
import Derived.LaidMore
import Derived.Lay
import Derived.Stop.Joined
import Derived.Deep.Slices
import Derived.Deep.Fields
import Derived.Lib.SmallJoins
namespace Go.Proofs.YtlcfpnegpihicaaGreatDoor
open Go.RowKit Go.Shelf
attribute [local go_sem] Oper.semAt_some

/-! ## The chapter's rows -/
/-- A list of what is said, in memory of its own. -/
def SdK (W : World) (A : Option Addr) (k c : Nat) (l : List Sd) : Prop := ∃ n0, Sds W n0 (.slice A k c) l
theorem SdK.below {W W' : World} {A : Option Addr} {k c : Nat} {l : List Sd} (h : SdK W A k c l) (hb : Below W.heap.size W W') : SdK W' A k c l := by
  obtain ⟨n0, h⟩ := h
  exact ⟨n0, h.below hb⟩
theorem Sds.named {W : World} {n0 : Nat} {v : Value} {l : List Sd} (h : Sds W n0 v l) : ∃ A c, v = .slice A l.length c ∧ SdK W A l.length c l := by
  obtain ⟨A, c, rfl, _⟩ := h.shape
  exact ⟨A, c, rfl, n0, h⟩
theorem SdK.at {W : World} {A : Option Addr} {k c : Nat} {l : List Sd} (h : SdK W A k c l) : SdAt W A l := by
  obtain ⟨n0, h⟩ := h
  obtain ⟨A', c', he, h'⟩ := h.shape
  injection he with e1 _ _
  rw [e1]; exact h'
theorem SdAt.lit {W : World} {k : Nat} {xs : List Sd} (h : Has W k 40 (sdsC xs).toArray) : SdAt W (some ⟨k, 0, none⟩) xs := fun i x hx => by
  obtain ⟨h1, h2, h3, h4, h5⟩ := sdsC_get xs i x hx
  exact ⟨k, rfl, h.lt, by rw [h.cell]; simpa using h1, by rw [h.cell]; simpa using h2, by rw [h.cell]; simpa using h3, by rw [h.cell]; simpa using h4, by rw [h.cell]; simpa using h5⟩
/-- The tables, all of which lie below w. -/
structure PsT0 (w : World) : Prop where
  f : FTabs w
  g : GrT w
  e : EvT w
  low : FLow w.heap.size
theorem FLow.up {a b : Nat} (h : FLow a) (hab : a ≤ b) : FLow b := by
  unfold FLow at *
  omega
theorem PsT0.below {w w' : World} (h : PsT0 w) (hb : Below w.heap.size w w') : PsT0 w' :=
  ⟨h.f.kept h.low (fun k hk => hb.block k hk), h.g.below hb, h.e.below hb, h.low.up hb.size⟩
theorem litP_fr (w : World) (l : List UInt8) (cs : Array Value) (fr : Nat × Nat) (hcs : (byts l).toArray = cs) : Rd (w.alloc (.cells cs 5 fr)) (fun k => k < (w.alloc (.cells cs 5 fr)).heap.size ∧ w.heap.size ≤ k) (some ⟨w.heap.size, 0, none⟩) l := fun _ => by
  refine ⟨_, rfl, by simp, fun j u hu => ?_⟩
  rw [add_zero_, Nat.zero_add, cell_of_row _ _ j cs _ fr (World.alloc_heap_new w _), ← hcs]
  simpa using hu
def OfLitP (ls : List Sd) (k : Nat) (w : World) (e : Ending) (w' : World) : Prop := ∃ A c, e = .returned (.tuple #[.slice A k c, .int .i64 0]) ∧ SdK w' A k c ls ∧ Below w.heap.size w w'
theorem ofP_lit (l m n k : Nat) (lit : List UInt8) (ls : List Sd) (cs : Array Value) (fr : Nat × Nat) (w : World) (hT : PsT0 w) (hls : saysP l m init0 (prNew []) lit = ls) (hk : ls.length = k) (hcs : (byts lit).toArray = cs) (hn : n = lit.length) (hl : lit.length ≤ 100) (h1 : 1 ≤ l) (h2 : l ≤ 65536) (h3 : 1 ≤ m) (h4 : m ≤ 65536) :
    Calls Tryz.prog 7 #[.int .i64 (l : Int), .int .i64 (m : Int), .slice (some ⟨w.heap.size, 0, none⟩) n n] (w.alloc (.cells cs 5 fr)) (OfLitP ls k w) := by
  have hb : Below w.heap.size w (w.alloc (.cells cs 5 fr)) := (Below.refl _ _).alloc (Nat.le_refl _) _
  have hT2 := hT.below hb
  refine (ofPs_yes 0 l m n n (some ⟨w.heap.size, 0, none⟩) lit _ h1 h2 h3 h4 hn (Nat.le_refl _) (by omega) (by omega) ((litP_fr w lit cs fr hcs).mono (fun k hk => hk.1)) hT2.g hT2.f hT2.low).mono ?_
  rintro e w' ⟨v, rfl, h1, h2⟩
  rw [hls] at h1
  obtain ⟨A, c, rfl, h3⟩ := h1.named
  rw [hk] at h3 ⊢
  exact ⟨A, c, rfl, h3, hb.trans (h2.mono hb.size)⟩
def WroteLitP (B p l m : Nat) (c' : CSt) (s' : PrS) (ls : List Sd) (k : Nat) (w : World) (e : Ending) (w' : World) : Prop :=
  ∃ A c, e = .returned (.tuple #[.slice A k c, .int .i64 0]) ∧ SdK w' A k c ls ∧ PrO w' B p l m c' s' ∧ Below B w w' ∧ (∀ A k c ls, SdK w A k c ls → SdK w' A k c ls)
theorem writeP_lit (B p l m n k : Nat) (c : CSt) (s : PrS) (lit : List UInt8) (ls : List Sd) (c' : CSt) (s' : PrS) (cs : Array Value) (fr : Nat × Nat) (w : World) (hs : PrO w B p l m c s) (hok : c.ok l) (hok2 : s.ok m l) (hll : s.last.length ≤ 1000000) (hT : FTabs w) (hL : FLow B) (hB : B ≤ w.heap.size)
    (hls : saysP l m c s lit = ls) (hc' : (stepC l c lit).2 = c') (hs' : nextP l m c s lit = s') (hk : ls.length = k) (hcs : (byts lit).toArray = cs) (hn : n = lit.length) (hl : lit.length ≤ 100) (h1 : 1 ≤ l) (h2 : l ≤ 65536) (h4 : m ≤ 65536) :
    Calls Tryz.prog 17 #[.pointer (some ⟨p, 0, none⟩), .slice (some ⟨w.heap.size, 0, none⟩) n n] (w.alloc (.cells cs 5 fr)) (WroteLitP B p l m c' s' ls k w) := by
  have hb : Below w.heap.size w (w.alloc (.cells cs 5 fr)) := (Below.refl _ _).alloc (Nat.le_refl _) _
  refine (writeO_any B p l m c s lit (some ⟨w.heap.size, 0, none⟩) n n w _ hs hb hok hok2 hll h1 h2 h4 hn (Nat.le_refl _) (by omega) (by omega) ((litP_fr w lit cs fr hcs).mono (fun k hk => ⟨hk.1, .inr hk.2⟩)) (hT.kept hL (fun k hk => hb.block k (by omega))) hL hB).mono ?_
  rintro e w' ⟨v, rfl, g1, g2, g3, g4⟩
  rw [hls] at g1
  rw [hc', hs'] at g2
  obtain ⟨A, cc, rfl, g5⟩ := g1.named
  rw [hk] at g5 ⊢
  exact ⟨A, cc, rfl, g5, g2, g3, fun A k c ls ⟨n0, h⟩ => ⟨n0, g4 _ _ _ h⟩⟩
def ResetO (B p l m : Nat) (id : List UInt8) (w : World) (e : Ending) (w' : World) : Prop :=
  e = .returned (.int .i64 0) ∧ PrO w' B p l m init0 (prNew id) ∧ Below B w w' ∧ (∀ A k c ls, SdK w A k c ls → SdK w' A k c ls)
theorem resetO_yes (B p l m : Nat) (c : CSt) (s : PrS) (id : List UInt8) (w : World) (hs : PrO w B p l m c s) (h1 : 1 ≤ l) (h2 : l ≤ 65536) (hid : id.length ≤ 1000000) (hT : EvT w) (hr : rightE (id, [], []) = true) (hB : B ≤ w.heap.size) :
    Calls Tryz.prog 15 #[.pointer (some ⟨p, 0, none⟩), .string ⟨id.toArray⟩] w (ResetO B p l m id w) := by
  obtain ⟨sp, dp, dv, ob, g1, g2, g3, g4⟩ := hs
  refine (resetPs_yes B p sp l m dv s id w g1.pr h1 h2 hid hT hr).mono ?_
  rintro e w' ⟨rfl, sp', dp', q1, q2, q3, q4, q5⟩
  refine ⟨rfl, ⟨sp', dp', .slice none 0 0, none, ⟨q3, bs_nil _ _, q4, fun g hg => by cases hg⟩, g2, by omega, by omega⟩, q5.below (fun k hk => by subst hk; exact g2) (by omega), fun A k c ls ⟨n0, h⟩ => ⟨n0, h.kept (fun g hg => ?_)⟩⟩
  obtain ⟨_, _, hh⟩ := h.own g hg
  exact q5.block g hh.lt (fun hk => hh.apart g1.pr (by decide) hk)
theorem sameSd_yes (A B : Option Addr) (xs : List Sd) (n c d : Nat) (w : World) (hn : n = xs.length) (hA : SdAt w A xs) (hB : SdAt w B xs) (hxs : ∀ x ∈ xs, SdOk x) (hl : n ≤ 1099511627776) :
    Calls Tryz.prog 10 #[.slice A n c, .slice B n d] w fun e w' => e = .returned (.bool true) ∧ Below w.heap.size w w' := by
  have := sameSd_any A B xs xs n n c d w hn hn hA hB hxs hxs hl hl
  rw [decide_eq_true rfl] at this
  exact this
theorem numPs_any (e : Int) (w : World) : Calls Tryz.prog 11 #[.int .i64 e] w fun r w' => r = .returned (.int .i64 e) ∧ w = w' := by
  go_enter Tryz.func11, Tryz.ntmps11
  go_wp2
  go_ret
  exact ⟨rfl, rfl⟩
theorem ofSd_any (a b c : ByteArray) (w : World) : Calls Tryz.prog 22 #[.string a, .string b, .string c] w fun r w' => r = .returned (.agg #[.int .i64 1, .string a, .string b, .string c, .int .u64 0]) ∧ Below w.heap.size w w' := by
  have hk := Has.new w 40 #[.int .i64 1, .string a, .string b, .string c, .int .u64 0]
  have x0 := hk.cell 0
  have x1 := hk.cell 1
  have x2 := hk.cell 2
  have x3 := hk.cell 3
  have x4 := hk.cell 4
  go_enter Tryz.func22, Tryz.ntmps22
  go_wp2
  exact bodyPost_ret (v := .agg #[.int .i64 1, .string a, .string b, .string c, .int .u64 0]) (by simp [results, Tryz.results22, go_sem, x0, x1, x2, x3, x4]) rfl ⟨rfl, (Below.refl _ _).alloc (Nat.le_refl _) _⟩
/-! The rows' values. -/
def wA : CSt := (stepC 99 init0 [100, 97, 116, 97, 58, 32, 120, 10]).2
def wB : CSt := (stepC 99 wA [10]).2
def uA : PrS := nextP 99 99 init0 (prNew []) [100, 97, 116, 97, 58, 32, 120, 10]
def uB : PrS := nextP 99 99 wA uA [10]
theorem rp1 : saysP 99 99 init0 (prNew []) [105, 100, 58, 32, 49, 10, 100, 97, 116, 97, 58, 32, 97, 10, 100, 97, 116, 97, 58, 32, 98, 10, 10, 100, 97, 116, 97, 10, 10, 101, 118, 101, 110, 116, 58, 32, 116, 10, 10, 114, 101, 116, 114, 121, 58, 32, 53, 10] = [(1, ([49], [], [97, 10, 98]), 0), (1, ([49], [], []), 0), (2, ([], [], []), 5)] := by decide +kernel
theorem rp2 : saysP 99 2 init0 (prNew []) [100, 97, 116, 97, 58, 32, 97, 98, 99, 10, 10, 100, 97, 116, 97, 58, 32, 97, 10, 10] = [(3, ([], [], []), 0), (1, ([], [], [97]), 0)] := by decide +kernel
theorem rp3 : saysP 99 99 init0 (prNew []) [100, 97, 116, 97, 58, 32, 120, 10] = [] := by decide +kernel
theorem rp4 : saysP 99 99 wA uA [10] = [(1, ([], [], [120]), 0)] := by decide +kernel
theorem rp5 : saysP 99 99 init0 (prNew [55]) [100, 97, 116, 97, 10, 10] = [(1, ([55], [], []), 0)] := by decide +kernel
theorem rp6 : uB.last = [] := by decide +kernel
theorem rp7 : uA.last = [] := by decide +kernel
theorem okwA : wA.ok 99 := stepC_ok (init0_ok 99) _
theorem okuA : uA.ok 99 99 := by
  have h := stepC_good (init0_ok 99) [100, 97, 116, 97, 58, 32, 120, 10]
  refine stepsP_ok _ _ (prNil_ok 99 99) (fun f hf => ?_)
  unfold fieldsL at hf
  obtain ⟨y, hy, hyf⟩ := List.mem_filterMap.1 hf
  obtain ⟨g1, g2, g3, _⟩ := h y hy
  exact said_ok ⟨g1, g2, g3⟩ hyf
theorem ok7 : (prNew [55]).ok 99 99 := prNew_ok (by decide +kernel) (by decide)
theorem right7 : rightE ([55], [], []) = true := by unfold rightE cleanB soundB fitsE; decide +kernel
end Go.Proofs.YtlcfpnegpihicaaGreatDoor

namespace Go.Proofs.YtlcfpnegpihicaaGreatDoor
open Go.RowKit Go.Shelf
attribute [local go_sem] Oper.semAt_some

/-! ## works -/
theorem belowP_at {B : Nat} {a b c : World} (h : Below B a b) (k : Below b.heap.size b c) (hB : B ≤ b.heap.size) : Below B a c := h.trans (k.mono hB)
set_option maxRecDepth 100000 in
set_option maxHeartbeats 4000000 in
theorem worksPs_any (w : World) (hT : PsT0 w) : Calls Tryz.prog 6 #[] w fun e w' => e = .returned (.bool true) ∧ Below w.heap.size w w' := by
  have hT' := Lib.hid hT
  clear hT
  have hcc := fun (w : World) (C : Array Value) (n c : Nat) => Lib.run_convert_bytes_const (P := Tryz.prog) w 22 5 C n c Tryz.underlying22 Tryz.underlying5
  go_enter Tryz.func6, Tryz.ntmps6
  go_wp2_with fail
  refine (ofP_lit 99 99 48 3 [105, 100, 58, 32, 49, 10, 100, 97, 116, 97, 58, 32, 97, 10, 100, 97, 116, 97, 58, 32, 98, 10, 10, 100, 97, 116, 97, 10, 10, 101, 118, 101, 110, 116, 58, 32, 116, 10, 10, 114, 101, 116, 114, 121, 58, 32, 53, 10] _ _ _ w hT'.out rp1 rfl rfl rfl (by decide) (by decide) (by decide) (by decide) (by decide)).mono ?_
  rintro e w1 ⟨A1, c1, rfl, l1, hb1⟩
  have l1' := Lib.hid l1
  have hb1' := Lib.hid hb1
  have z1 := hb1.size
  clear l1 hb1
  go_wp2_with fail
  refine (ofP_lit 99 2 20 2 [100, 97, 116, 97, 58, 32, 97, 98, 99, 10, 10, 100, 97, 116, 97, 58, 32, 97, 10, 10] _ _ _ w1 (hT'.out.below hb1'.out) rp2 rfl rfl rfl (by decide) (by decide) (by decide) (by decide) (by decide)).mono ?_
  rintro e w2 ⟨A2, c2, rfl, l2, hb2⟩
  have l12 := Lib.hid (l1'.out.below hb2)
  have l2' := Lib.hid l2
  have hb2' := Lib.hid (belowP_at hb1'.out hb2 z1)
  have z2 := hb2'.out.size
  clear l2 hb2 l1' hb1'
  go_wp2_with fail
  refine (newPs_yes w.heap.size 99 99 w2 (hT'.out.below hb2'.out).g (by decide) (by decide) (by decide) (by decide)).mono ?_
  rintro e w3 ⟨p, rfl, hm⟩
  have hb3 := hm.choose_spec.choose_spec.2.2.2.2.2
  have hs3' := Lib.hid (hm.own z2)
  have l13 := Lib.hid (l12.out.below hb3)
  have l23 := Lib.hid (l2'.out.below hb3)
  have hb3' := Lib.hid (belowP_at hb2'.out hb3 z2)
  have z3 := hb3'.out.size
  clear hm hb3 l12 l2' hb2'
  go_wp2_with fail
  refine (writeP_lit w.heap.size p 99 99 8 0 init0 (prNew []) [100, 97, 116, 97, 58, 32, 120, 10] _ wA uA _ _ w3 hs3'.out (init0_ok 99) (prNil_ok 99 99) (Nat.zero_le _) (hT'.out.below hb3'.out).f hT'.out.low z3 rp3 rfl rfl rfl rfl rfl (by decide) (by decide) (by decide) (by decide)).mono ?_
  rintro e w4 ⟨A4, c4, rfl, _, hs4, hb4, k4⟩
  have l14 := Lib.hid (k4 _ _ _ _ l13.out)
  have l24 := Lib.hid (k4 _ _ _ _ l23.out)
  have hs4' := Lib.hid hs4
  have hb4' := Lib.hid (hb3'.out.trans hb4)
  have z4 := hb4'.out.size
  clear hs4 hb4 k4 l13 l23 hs3' hb3'
  go_wp2_with fail
  refine (writeP_lit w.heap.size p 99 99 1 1 wA uA [10] _ wB uB _ _ w4 hs4'.out okwA okuA (by rw [rp7]; exact Nat.zero_le _) (hT'.out.below hb4'.out).f hT'.out.low z4 rp4 rfl rfl rfl rfl rfl (by decide) (by decide) (by decide) (by decide)).mono ?_
  rintro e w5 ⟨A5, c5, rfl, l5, hs5, hb5, k5⟩
  have l15 := Lib.hid (k5 _ _ _ _ l14.out)
  have l25 := Lib.hid (k5 _ _ _ _ l24.out)
  have l5' := Lib.hid l5
  have hs5' := Lib.hid hs5
  have hb5' := Lib.hid (hb4'.out.trans hb5)
  have z5 := hb5'.out.size
  clear l5 hs5 hb5 k5 l14 l24 hs4' hb4'
  go_wp2_with fail
  have hla : Hid (Calls Tryz.prog 18 #[.pointer (some ⟨p, 0, none⟩)] w5 fun e w' => e = .returned (.string ⟨#[]⟩) ∧ w5 = w') := Lib.hid (by
    obtain ⟨sp, dp, dv, ob, h1, _⟩ := hs5'.out
    have h := lastId_any p sp 99 99 dv uB w5 h1.pr (by decide)
    rw [rp6] at h
    exact h)
  refine hla.out.mono ?_
  rintro e w' ⟨rfl, rfl⟩
  clear hla
  go_wp2_with fail
  refine (resetO_yes w.heap.size p 99 99 wB uB [55] w5 hs5'.out (by decide) (by decide) (by decide) (hT'.out.below hb5'.out).e right7 z5).mono ?_
  rintro e w6 ⟨rfl, hs6, hb6, k6⟩
  have l16 := Lib.hid (k6 _ _ _ _ l15.out)
  have l26 := Lib.hid (k6 _ _ _ _ l25.out)
  have l56 := Lib.hid (k6 _ _ _ _ l5'.out)
  have hs6' := Lib.hid hs6
  have hb6' := Lib.hid (hb5'.out.trans hb6)
  have z6 := hb6'.out.size
  clear hs6 hb6 k6 l15 l25 l5' hs5' hb5'
  go_wp2_with fail
  refine (writeP_lit w.heap.size p 99 99 6 1 init0 (prNew [55]) [100, 97, 116, 97, 10, 10] _ _ _ _ _ w6 hs6'.out (init0_ok 99) ok7 (by decide) (hT'.out.below hb6'.out).f hT'.out.low z6 rp5 rfl rfl rfl rfl rfl (by decide) (by decide) (by decide) (by decide)).mono ?_
  rintro e w7 ⟨A7, c7, rfl, l7, _, hb7, k7⟩
  have l17 := Lib.hid (k7 _ _ _ _ l16.out)
  have l27 := Lib.hid (k7 _ _ _ _ l26.out)
  have l57 := Lib.hid (k7 _ _ _ _ l56.out)
  have l7' := Lib.hid l7
  have hb7' := Lib.hid (hb6'.out.trans hb7)
  have z7 := hb7'.out.size
  clear l7 hb7 k7 l16 l26 l56 hs6' hb6' hcc
  go_wp2_with (go_at_call 11; (with_reducible refine Calls.mono (numPs_any _ _) ?_); rintro e w' ⟨rfl, rfl⟩)
  have lAw7 := Lib.hid l17.out
  have lBw7 := Lib.hid l27.out
  have lDw7 := Lib.hid l57.out
  have lXw7 := Lib.hid l7'.out
  have hbw7 := Lib.hid hb7'.out
  have zw7 := z7
  clear l17 l27 l57 l7' hb7' z7
  refine (ofSd_any ⟨#[49]⟩ ⟨#[]⟩ ⟨#[97, 10, 98]⟩ w7).mono ?_
  rintro e w8 ⟨rfl, hbx⟩
  have lAw8 := Lib.hid (lAw7.out.below hbx)
  have lBw8 := Lib.hid (lBw7.out.below hbx)
  have lDw8 := Lib.hid (lDw7.out.below hbx)
  have lXw8 := Lib.hid (lXw7.out.below hbx)
  have hbw8 := Lib.hid (belowP_at hbw7.out hbx zw7)
  have zw8 := hbw8.out.size
  clear hbx lAw7 lBw7 lDw7 lXw7 hbw7
  go_wp2_with fail
  refine (ofSd_any ⟨#[49]⟩ ⟨#[]⟩ ⟨#[]⟩ w8).mono ?_
  rintro e w9 ⟨rfl, hbx⟩
  have lAw9 := Lib.hid (lAw8.out.below hbx)
  have lBw9 := Lib.hid (lBw8.out.below hbx)
  have lDw9 := Lib.hid (lDw8.out.below hbx)
  have lXw9 := Lib.hid (lXw8.out.below hbx)
  have hbw9 := Lib.hid (belowP_at hbw8.out hbx zw8)
  have zw9 := hbw9.out.size
  clear hbx lAw8 lBw8 lDw8 lXw8 hbw8
  go_wp2_with fail
  have hbl : Below w9.heap.size w9 (w9.alloc (.cells #[.int .i64 1, .string ⟨#[49]⟩, .string ⟨#[]⟩, .string ⟨#[97, 10, 98]⟩, .int .u64 0, .int .i64 1, .string ⟨#[49]⟩, .string ⟨#[]⟩, .string ⟨#[]⟩, .int .u64 0, .int .i64 2, .string ⟨#[]⟩, .string ⟨#[]⟩, .string ⟨#[]⟩, .int .u64 5] 40)) := (Below.refl _ _).alloc (Nat.le_refl _) _
  refine (sameSd_yes A1 (some ⟨w9.heap.size, 0, none⟩) [(1, ([49], [], [97, 10, 98]), 0), (1, ([49], [], []), 0), (2, ([], [], []), 5)] 3 c1 3 _ rfl (lAw9.out.below hbl).at (SdAt.lit (Has.new w9 _ _)) (fun x hx => by have hx := hx; simp only [List.mem_cons, List.not_mem_nil, or_false] at hx; rcases hx with rfl | rfl | rfl <;> exact ⟨by decide, by decide, by decide, by decide, by decide⟩) (by decide)).mono ?_
  rintro e wJ ⟨rfl, hby⟩
  have hbx := hbl.trans (hby.mono hbl.size)
  have lBwJ := Lib.hid (lBw9.out.below hbx)
  have lDwJ := Lib.hid (lDw9.out.below hbx)
  have lXwJ := Lib.hid (lXw9.out.below hbx)
  have hbwJ := Lib.hid (belowP_at hbw9.out hbx zw9)
  have zwJ := hbwJ.out.size
  clear hby hbx hbl lAw9 lBw9 lDw9 lXw9 hbw9
  go_wp2_with fail
  refine (ofSd_any ⟨#[]⟩ ⟨#[]⟩ ⟨#[97]⟩ wJ).mono ?_
  rintro e wK ⟨rfl, hbx⟩
  have lBwK := Lib.hid (lBwJ.out.below hbx)
  have lDwK := Lib.hid (lDwJ.out.below hbx)
  have lXwK := Lib.hid (lXwJ.out.below hbx)
  have hbwK := Lib.hid (belowP_at hbwJ.out hbx zwJ)
  have zwK := hbwK.out.size
  clear hbx lBwJ lDwJ lXwJ hbwJ
  go_wp2_with fail
  have hbl : Below wK.heap.size wK (wK.alloc (.cells #[.int .i64 3, .string ⟨#[]⟩, .string ⟨#[]⟩, .string ⟨#[]⟩, .int .u64 0, .int .i64 1, .string ⟨#[]⟩, .string ⟨#[]⟩, .string ⟨#[97]⟩, .int .u64 0] 40)) := (Below.refl _ _).alloc (Nat.le_refl _) _
  refine (sameSd_yes A2 (some ⟨wK.heap.size, 0, none⟩) [(3, ([], [], []), 0), (1, ([], [], [97]), 0)] 2 c2 2 _ rfl (lBwK.out.below hbl).at (SdAt.lit (Has.new wK _ _)) (fun x hx => by have hx := hx; simp only [List.mem_cons, List.not_mem_nil, or_false] at hx; rcases hx with rfl | rfl <;> exact ⟨by decide, by decide, by decide, by decide, by decide⟩) (by decide)).mono ?_
  rintro e wL ⟨rfl, hby⟩
  have hbx := hbl.trans (hby.mono hbl.size)
  have lDwL := Lib.hid (lDwK.out.below hbx)
  have lXwL := Lib.hid (lXwK.out.below hbx)
  have hbwL := Lib.hid (belowP_at hbwK.out hbx zwK)
  have zwL := hbwL.out.size
  clear hby hbx hbl lBwK lDwK lXwK hbwK
  go_wp2_with fail
  refine (ofSd_any ⟨#[]⟩ ⟨#[]⟩ ⟨#[120]⟩ wL).mono ?_
  rintro e wM ⟨rfl, hbx⟩
  have lDwM := Lib.hid (lDwL.out.below hbx)
  have lXwM := Lib.hid (lXwL.out.below hbx)
  have hbwM := Lib.hid (belowP_at hbwL.out hbx zwL)
  have zwM := hbwM.out.size
  clear hbx lDwL lXwL hbwL
  go_wp2_with fail
  have hbl : Below wM.heap.size wM (wM.alloc (.cells #[.int .i64 1, .string ⟨#[]⟩, .string ⟨#[]⟩, .string ⟨#[120]⟩, .int .u64 0] 40)) := (Below.refl _ _).alloc (Nat.le_refl _) _
  refine (sameSd_yes A5 (some ⟨wM.heap.size, 0, none⟩) [(1, ([], [], [120]), 0)] 1 c5 1 _ rfl (lDwM.out.below hbl).at (SdAt.lit (Has.new wM _ _)) (fun x hx => by have hx := hx; simp only [List.mem_cons, List.not_mem_nil, or_false] at hx; rcases hx with rfl <;> exact ⟨by decide, by decide, by decide, by decide, by decide⟩) (by decide)).mono ?_
  rintro e wN ⟨rfl, hby⟩
  have hbx := hbl.trans (hby.mono hbl.size)
  have lXwN := Lib.hid (lXwM.out.below hbx)
  have hbwN := Lib.hid (belowP_at hbwM.out hbx zwM)
  have zwN := hbwN.out.size
  clear hby hbx hbl lDwM lXwM hbwM
  go_wp2_with fail
  refine (ofSd_any ⟨#[55]⟩ ⟨#[]⟩ ⟨#[]⟩ wN).mono ?_
  rintro e wO ⟨rfl, hbx⟩
  have lXwO := Lib.hid (lXwN.out.below hbx)
  have hbwO := Lib.hid (belowP_at hbwN.out hbx zwN)
  have zwO := hbwO.out.size
  clear hbx lXwN hbwN
  go_wp2_with fail
  have hbl : Below wO.heap.size wO (wO.alloc (.cells #[.int .i64 1, .string ⟨#[55]⟩, .string ⟨#[]⟩, .string ⟨#[]⟩, .int .u64 0] 40)) := (Below.refl _ _).alloc (Nat.le_refl _) _
  refine (sameSd_yes A7 (some ⟨wO.heap.size, 0, none⟩) [(1, ([55], [], []), 0)] 1 c7 1 _ rfl (lXwO.out.below hbl).at (SdAt.lit (Has.new wO _ _)) (fun x hx => by have hx := hx; simp only [List.mem_cons, List.not_mem_nil, or_false] at hx; rcases hx with rfl <;> exact ⟨by decide, by decide, by decide, by decide, by decide⟩) (by decide)).mono ?_
  rintro e wP ⟨rfl, hby⟩
  have hbx := hbl.trans (hby.mono hbl.size)
  have hbwP := Lib.hid (belowP_at hbwO.out hbx zwO)
  have zwP := hbwP.out.size
  clear hby hbx hbl lXwO hbwO
  go_wp2
  go_ret
  exact ⟨rfl, hbwP.out⟩
end Go.Proofs.YtlcfpnegpihicaaGreatDoor

namespace Go.Proofs.YtlcfpnegpihicaaGreatDoor
open Go.ChangeShapes Go.WideShapes Go.ChangeAt Go.RowKit Go.Deep

/-! ## The rows' eight tables -/
theorem laid_head1 {P : Program} {n : String} {d : DataW Unit} {rest : List (String × DataW Unit)} {W : World} (h : laidMet P ((n, d) :: rest) W) : laidMet P [(n, d)] W := by
  obtain ⟨ps, ⟨g, t, cs, fuel, p, q, h1, h2, h3, h4, h5, rfl⟩, hn, hc⟩ := h
  exact ⟨_, ⟨g, t, cs, fuel, p, [], h1, h2, h3, h4, rfl, rfl⟩, by simpa using (List.nodup_append.1 hn).1, fun b off hm => hc b off (List.mem_append_left _ (by simpa using hm))⟩
theorem gSigns : Tryz.prog.globalNamed "bellman/event.signs" = some 1 := by kernel_rfl
theorem gSignsType : (Tryz.prog.globals[1]?).map (·.type) = some 176 := by kernel_rfl
theorem cellsSigns : Tryz.prog.cellsOf 176 = 3 := by kernel_rfl
theorem gEnds : Tryz.prog.globalNamed "bellman/lines.ends" = some 2 := by kernel_rfl
theorem gEndsType : (Tryz.prog.globals[2]?).map (·.type) = some 213 := by kernel_rfl
theorem cellsEnds : Tryz.prog.cellsOf 213 = 2 := by kernel_rfl
theorem gGreat : Tryz.prog.globalNamed "bellman/parse.greatest" = some 0 := by kernel_rfl
theorem gGreatType : (Tryz.prog.globals[0]?).map (·.type) = some 69 := by kernel_rfl
theorem cellsGreat : Tryz.prog.cellsOf 69 = 2 := by kernel_rfl
theorem ends_of {W : World} (h : laidMet Tryz.prog [("bellman/lines.ends", Rows.laid_bellman_lines_ends)] W) : Ends W := by
  obtain ⟨ps, ⟨g', t', cs, fuel, p, q, hg', ht', hvar, hd, _, hps⟩, _, hcells⟩ := h
  obtain rfl := Option.some.inj (gEnds.symm.trans hg')
  obtain rfl := Option.some.inj (gEndsType.symm.trans ht')
  have hl : cs.toList = [13, 10].map fun z => Value.int .u8 z := Lib.cells_of_tab Tryz.underlying213 Tryz.underlying5 cells8 cellsEnds hd
  have hlen : cs.size = 2 := by have := congrArg List.length hl; simpa using this
  have hrow : MemPlace.cell 2 0 ∈ ps := by
    rw [hps, hlen]
    refine List.mem_append_left _ (List.mem_append_left _ ?_)
    decide
  obtain ⟨⟨c, t, hc⟩, _⟩ := hcells _ _ hrow
  have hcs : c = cs := by
    simp only [World.var?, gEnds, Option.bind_some] at hvar
    rw [hc] at hvar
    simpa using hvar
  subst hcs
  refine ⟨t, c, hc, ?_, ?_⟩
  · rw [← Array.getElem?_toList, hl]; rfl
  · rw [← Array.getElem?_toList, hl]; rfl
theorem great_of {W : World} (h : laidMet Tryz.prog [("bellman/parse.greatest", Rows.laid_bellman_parse_greatest)] W) : GrT W := by
  obtain ⟨ps, ⟨g', t', cs, fuel, p, q, hg', ht', hvar, hd, _, hps⟩, _, hcells⟩ := h
  obtain rfl := Option.some.inj (gGreat.symm.trans hg')
  obtain rfl := Option.some.inj (gGreatType.symm.trans ht')
  have hl : cs.toList = [65536, 65536].map fun z => Value.int .i64 z := Lib.cells_of_tab Tryz.underlying69 Tryz.underlying3 cells64 cellsGreat hd
  have hlen : cs.size = 2 := by have := congrArg List.length hl; simpa using this
  have hrow : MemPlace.cell 0 0 ∈ ps := by
    rw [hps, hlen]
    refine List.mem_append_left _ (List.mem_append_left _ ?_)
    decide
  obtain ⟨⟨c, t, hc⟩, _⟩ := hcells _ _ hrow
  have hcs : c = cs := by
    simp only [World.var?, gGreat, Option.bind_some] at hvar
    rw [hc] at hvar
    simpa using hvar
  subst hcs
  have he : c = #[.int .i64 65536, .int .i64 65536] := by
    apply Array.toList_inj.1
    rw [hl]; rfl
  exact ⟨t, by rw [← he]; exact hc⟩
theorem cell_lt {W : World} {k i : Nat} {v : Value} (h : W.cell? ⟨k, i, none⟩ = some v) : k < W.heap.size := by
  unfold World.cell? at h
  by_cases hg : k < W.heap.size
  · exact hg
  · rw [Array.getElem?_eq_none (by show W.heap.size ≤ k; omega)] at h; cases h
/-- What the rows' list gives. -/
theorem tablesP {W : World} (h : laidMetH Tryz.prog [("unicode/utf8.acceptRanges", Rows.laid_unicode_utf8_acceptRanges), ("bellman/decimal.bases", Rows.laid_bellman_decimal_bases), ("bellman/utf.leads", Rows.laid_bellman_utf_leads), ("bellman/field.names", Rows.laid_bellman_field_names), ("bellman/event.signs", Rows.laid_bellman_event_signs), ("bellman/lines.ends", Rows.laid_bellman_lines_ends), ("bellman/parse.greatest", Rows.laid_bellman_parse_greatest), ("unicode/utf8.first", Rows.laid_unicode_utf8_first)] W) : Tab W ∧ TabU W ∧ NamesT W ∧ SgT W ∧ Ends W ∧ GrT W := by
  have h0 : laidMet Tryz.prog [("unicode/utf8.acceptRanges", Rows.laid_unicode_utf8_acceptRanges), ("bellman/decimal.bases", Rows.laid_bellman_decimal_bases), ("bellman/utf.leads", Rows.laid_bellman_utf_leads), ("bellman/field.names", Rows.laid_bellman_field_names), ("bellman/event.signs", Rows.laid_bellman_event_signs), ("bellman/lines.ends", Rows.laid_bellman_lines_ends), ("bellman/parse.greatest", Rows.laid_bellman_parse_greatest), ("unicode/utf8.first", Rows.laid_unicode_utf8_first)] W := h
  have h1 := laid_tail1 h0
  have h2 := laid_tail1 h1
  have h3 := laid_tail1 h2
  have h4 := laid_tail1 h3
  have h5 := laid_tail1 h4
  have h6 := laid_tail1 h5
  have t : Lib.TabIs Tryz.prog W "bellman/decimal.bases" .u64 [10, 16] :=
    Lib.tabIs_of_head gBases gBasesType Tryz.underlying229 Tryz.underlying38 cellsU64 cellsBases h1
  have s : Lib.TabIs Tryz.prog W "bellman/event.signs" .u8 [13, 10, 0] :=
    Lib.tabIs_of_head gSigns gSignsType Tryz.underlying176 Tryz.underlying5 cells8 cellsSigns h4
  exact ⟨⟨t.cell gBases 0 (by decide), t.cell gBases 1 (by decide)⟩, tableU (laid_head1 h2), names_of h3, ⟨s.cell gSigns 0 (by decide), s.cell gSigns 1 (by decide), s.cell gSigns 2 (by decide)⟩, ends_of (laid_head1 h5), great_of (laid_head1 h6)⟩
theorem psT_of {W : World} (h : Tab W ∧ TabU W ∧ NamesT W ∧ SgT W ∧ Ends W ∧ GrT W) (hs : W.ShapedOpen Tryz.prog) : PsT0 W := by
  obtain ⟨h1, h2, h3, h4, h5, h6⟩ := h
  have hm := maxT_of hs
  refine ⟨⟨h3, hm, h1, h2, h5⟩, h6, ⟨h2, h4, h3, hm⟩, ?_⟩
  refine ⟨?_, ?_, cell_lt h1.1, h2.lt, h5.lt⟩
  · obtain ⟨t, h⟩ := h3; exact (Array.getElem?_eq_some_iff.1 h).1
  · obtain ⟨t, h⟩ := hm; exact h.lt
/-- A world for the witness. -/
noncomputable def laidWorldP (os : Os) : World := World.laidAll Tryz.prog os Rows.parsePiecesRow.laid
end Go.Proofs.YtlcfpnegpihicaaGreatDoor

namespace Go.Proofs.YtlcfpnegpihicaaGreatDoor
open Go.ChangeShapes Go.WideShapes Go.ChangeAt Go.RowKit Go.Deep

/-! ## Bytes that came in, opened -/
theorem bytes_of {H : Type} {enc : TypeId × Value → H} {W : World} {held : Bool} {fuel : Nat} {A : Option Addr} {len cap : Nat} {y : DataW H × List MemPlace} (h : DataW.trod enc Tryz.prog W 0 (fun _ => true) held fuel 22 [.slice A len cap] = some y) :
    ∃ l : List UInt8, len = l.length ∧ Rd W (· < W.heap.size) A l ∧ len ≤ cap ∧ cap ≤ maxLen := by
  rcases open_ints Tryz.underlying22 Tryz.underlying5 cells8 h with ⟨hcs, _⟩ | ⟨a, n, c, zs, hcs, _, hl, hm, hz, hx, hcell, hwz⟩
  · injection hcs with hcs
    injection hcs with h1 h2 h3
    subst h1; subst h2; subst h3
    exact ⟨[], rfl, fun h => absurd h (by simp), Nat.le_refl _, Nat.zero_le _⟩
  · injection hcs with hcs
    injection hcs with h1 h2 h3
    subst h1; subst h2; subst h3
    simp only [if_true] at hz
    have hll : ((zs.take len).map fun z => UInt8.ofNat z.toNat).length = len := by simp; omega
    refine ⟨(zs.take len).map fun z => UInt8.ofNat z.toNat, hll.symm, fun h0 => ?_, hl, hm⟩
    replace h0 : 0 < len := by rw [hll] at h0; exact h0
    refine ⟨a, rfl, World.block_lt_of_cell? W _ (by have := hcell 0 (by omega); simpa [Addr.add] using this), fun j u hu => ?_⟩
    obtain ⟨hj, rfl⟩ := byts_get hu
    replace hj : j < len := by rw [hll] at hj; exact hj
    rw [hcell j (by omega)]
    have hb := hwz (zs[j]'(by omega)) (List.getElem_mem _)
    have hb2 := bounds_u8 hb
    simp only [List.getElem_map, List.getElem_take, byt]
    rw [List.getD_eq_getElem?_getD, List.getElem?_eq_getElem (by omega)]
    simp only [Option.getD_some]
    congr 2
    rw [UInt8.toNat_ofNat']
    omega
end Go.Proofs.YtlcfpnegpihicaaGreatDoor
