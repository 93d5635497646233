import Derived.Test.YtlcfpnegpihicaaGreatDoorPw1
import Derived.Test.YtlcfpnegpihicaaGreatDoorPw2
import Derived.Test.YtlcfpnegpihicaaGreatDoorPw4
import Derived.KernelRfl
import Derived.WalkMore
import Derived.BigRegionIn
import Derived.Shelf.Abstract
import Derived.RangeFuncLeaves
import Derived.RangeFuncRecord
import Derived.ScopeJumps
import Derived.WalkKit
import Derived.BigQuiet
import Derived.Deep.QuietTactic
import Derived.Deep.RegionHeld3
import Derived.Laws.BytesArg
import Derived.RangeFuncNested
import Derived.RangeFuncBox
import Derived.RangeFuncBound
import Derived.RangeFuncCalls
import Derived.OwnWalkIn
import Derived.TacticsInMore
import Derived.LoopNIn
import Derived.LoopIn
import Derived.Stop.RegionWithIn
namespace Go.Proofs.YtlcfpnegpihicaaGreatDoor
open Go.RowKit Go.Shelf
attribute [local go_sem] Oper.semAt_some
attribute [local go_sem] wide_fn wide_depth wide_round

/-! ## Ranges over functions: what serves them -/
/-- A round's answer, by a Bool. -/
def YPost {α : Type} (J Jx : List α → World → Prop) (K : World → World → Prop) (ys : List α) (W : World) (b : Bool) (W' : World) : Prop := if b = true then J ys W' ∧ K W W' else Jx ys W'
/-- A block of cells abides the turn of what is no cells. -/
theorem Has.row {X Y : World} {row : Option Nat} {k : Nat} {t : TypeId} {cs : Array Value} {B : Nat} (hs : Has X k t cs) (hg : X.grownBy Y row) (hr : ∀ r, row = some r → B ≤ r ∧ ∃ o : Obj, X.heap[r]? = some o ∧ o.isCells = false) : Has Y k t cs :=
  (hg.block k hs.lt (fun e => by
    obtain ⟨_, o, ho, hc⟩ := hr k e.symm
    have hs' : X.heap[k]? = some (.cells cs t (0, 0)) := hs
    rw [hs'] at ho
    rw [← Option.some.inj ho] at hc
    cases hc)).trans hs
/-- The frame of a round whose variable lies in a box. -/
def AxB {α : Type} (F : α → Nat → Act) (t : TypeId) (V : α → Array Value) (x : α) (a' : Act) (W : World) : Prop := ∃ k, a' = F x k ∧ Has W k t (V x)
theorem axB_from {α : Type} {B : Nat} {F : α → Nat → Act} {t : TypeId} {V : α → Array Value} (x : α) (a' : Act) : OwnFrom B (fun (_ : Unit) W => AxB F t V x a' W) := fun _ X Y row hs hg hr => by
  obtain ⟨k, e, h⟩ := hs
  exact ⟨k, e, h.row hg hr⟩
theorem round_any {m m' l l' : Nat} {P : Program} {f : FuncId} {tmps : Array Value} {assign body : Code} {w : World} {R : Ending → World → Prop}
    (h : RoundIn Fence.wide m P l f tmps assign body w R) : RoundIn (Fence.wide.inRound l') m' P l f tmps assign body w R :=
  ⟨h.1, fun c cs _ => h.2 c cs (room_wide _)⟩
theorem OwnFrom.up {β : Type} {B B' : Nat} {I : β → World → Prop} (h : OwnFrom B I) (hB : B ≤ B') : OwnFrom B' I := fun s X Y row hs hg hr => h s X Y row hs hg (fun r e => ⟨by have := (hr r e).1; omega, (hr r e).2⟩)
theorem KeepsFrom.up {B B' : Nat} {V V' : World} (h : KeepsFrom B V V') (hB : B ≤ B') : KeepsFrom B' V V' := ⟨h.size, fun k o hk => h.same k o (by omega)⟩
end Go.Proofs.YtlcfpnegpihicaaGreatDoor

namespace Go.Proofs.YtlcfpnegpihicaaGreatDoor
open Go.RowKit

/-! ## Which lead byte a byte is, which one a point has -/
def LeadOf (k : Nat) (w : World) (e : Ending) (w' : World) : Prop := e = .returned (.tuple #[.agg (if k = 9 then zeroRow else rowV k), .bool (decide (k ≠ 9))]) ∧ Below w.heap.size w w'
/-- Four cells written, one behind the other. -/
def putFour (W : World) (k : Nat) (a b c d : Value) : World := (((W.setCell ⟨k, 0, none⟩ a).setCell ⟨k, 1, none⟩ b).setCell ⟨k, 2, none⟩ c).setCell ⟨k, 3, none⟩ d
theorem Has.put4 {W : World} {k : Nat} {t : TypeId} {x y z u : Value} (h : Has W k t #[x, y, z, u]) (a b c d : Value) : Has (putFour W k a b c d) k t #[a, b, c, d] := by
  have := (((h.put 0 a).put 1 b).put 2 c).put 3 d
  unfold putFour
  simpa using this
theorem below_put4 {B : Nat} {w W : World} (h : Below B w W) {k : Nat} (hk : B ≤ k) (a b c d : Value) : Below B w (putFour W k a b c d) :=
  (((h.setCell (p := ⟨k, 0, none⟩) hk a).setCell (p := ⟨k, 1, none⟩) hk b).setCell (p := ⟨k, 2, none⟩) hk c).setCell (p := ⟨k, 3, none⟩) hk d
theorem kOf_none {b : Nat} (h : ∀ m, m < 9 → kOf b ≠ m) : kOf b = 9 := by
  have := kOf_le b
  rcases Nat.lt_or_ge (kOf b) 9 with h' | h'
  · exact absurd rfl (h _ h')
  · omega
set_option maxRecDepth 100000 in
set_option maxHeartbeats 1000000 in
theorem leadOf_any (b : Nat) (w : World) (hT : TabU w) : Calls Tryz.prog 150 #[.int .u8 (b : Int)] w (LeadOf (kOf b) w) := by
  have hT1 : TabU (w.alloc (.cells #[.int .i64 0, .int .i64 0, .int .u8 0, .int .i64 0] 242)) := hT.below ((Below.refl _ _).alloc (Nat.le_refl _) _)
  go_enter Tryz.func150, Tryz.ntmps150
  go_wp2_with (refine wpList_load_mid rfl 258 _ rfl 6 0 rfl leadsCells (.array 9 242) hT1.range Tryz.underlying258 rfl (by kernel_rfl) ?_)
  go_loopw [7] (fun i wr => ∃ k : Nat, k ≤ 9 ∧ i = .int .i64 k ∧ (∀ m, m < k → kOf b ≠ m) ∧ Below w.heap.size w wr ∧ Has wr w.heap.size 242 zeroRow) (fun i _ => 9 - (intOf i).toNat)
  case atStart => exact ⟨0, by omega, rfl, fun m h => absurd h (by omega), (Below.refl _ _).alloc (Nat.le_refl _) _, Has.new _ _ _⟩
  case round =>
    obtain ⟨k, hk, rfl, hno, hb, hz⟩ := hrel
    have hno' := Lib.hid hno
    have hb' := Lib.hid hb
    have hz' := Lib.hid hz
    clear hno hb hz
    have hblt := hz'.out.lt
    have hl := hz'.out
    unfold zeroRow at hl
    by_cases hlt : k < 9
    · have hx := lead_at hlt wr
      obtain ⟨hb1, hz1, hT2⟩ : Below w.heap.size w (wr.alloc (.cells (rowV k) 242)) ∧ Has (wr.alloc (.cells (rowV k) 242)) w.heap.size 242 zeroRow ∧ True := ⟨hb'.out.alloc hb'.out.size _, hz'.out.alloc _, trivial⟩
      have hc := takes_any k b 0 ((wr.alloc (.cells (rowV k) 242))) hlt (Nat.zero_le _)
      rw [takes_lead hlt] at hc
      have hc' := Lib.hid hc
      have hb1' := Lib.hid hb1
      have hz1' := Lib.hid hz1
      clear hc hb1 hz1 hT2 hl
      have hrow : rowV k = rowV k := rfl
      conv at hrow => rhs; unfold rowV
      have hrow' := Lib.hid hrow
      clear hrow
      rw [hrow'.out] at hx hc' hz1' hb1'
      generalize leastN k = ln at *
      generalize mostN k = mn at *
      generalize (markN k : Int) = kn at *
      generalize (moreN k : Int) = rn at *
      have hk0 : (k : Int) < 9 := by omega
      by_cases hkb : kOf b = k
      · have hd : decide (kOf b = k) = true := by simpa using hkb
        rw [hd] at hc'
        clear hd
        have hkb' := Lib.hid hkb
        clear hkb
        go_wp2_with (go_at_call 151; refine (hc'.out).mono ?_; rintro e w1 ⟨rfl, hbw⟩; have hz2 := hz1'.out.below hbw hz1'.out.lt; unfold zeroRow at hz2; have c0 := hz2.cell 0; have c1 := hz2.cell 1; have c2 := hz2.cell 2; have c3 := hz2.cell 3; have f0 := hz2.free 0; have f1 := hz2.free 1; have f2 := hz2.free 2; have f3 := hz2.free 3; obtain ⟨hcc, hff⟩ := bcell hbw; have hbw' := Lib.hid hbw; have hz2' := Lib.hid hz2; clear hz2 hbw)
        have hz3 := hz2'.out.put4 (.int .i64 ln) (.int .i64 mn) (.int .u8 kn) (.int .i64 rn)
        have hB3 := below_put4 (hb1'.out.trans (hbw'.out.mono hb1'.out.size)) (Nat.le_refl _) (.int .i64 ln) (.int .i64 mn) (.int .u8 kn) (.int .i64 rn)
        unfold putFour at hz3 hB3
        generalize (((w1.setCell _ _).setCell _ _).setCell _ _).setCell _ _ = w3 at hz3 hB3 ⊢
        have d0 := hz3.cell 0
        have d1 := hz3.cell 1
        have d2 := hz3.cell 2
        have d3 := hz3.cell 3
        refine bodyPost_ret (v := .tuple #[.agg #[.int .i64 ln, .int .i64 mn, .int .u8 kn, .int .i64 rn], .bool true]) (by simp [results, Tryz.results150, go_sem, d0, d1, d2, d3]) rfl ⟨?_, hB3⟩
        have hk9 : k ≠ 9 := by omega
        rw [hkb'.out, if_neg hk9, hrow'.out]
        simp [hk9]
      · have hd : decide (kOf b = k) = false := by simpa using hkb
        rw [hd] at hc'
        clear hd
        have hkb' := Lib.hid hkb
        clear hkb
        go_wp2_with (go_at_call 151; refine (hc'.out).mono ?_; rintro e w1 ⟨rfl, hbw⟩; have hbw' := Lib.hid hbw; clear hbw)
        refine ⟨⟨k + 1, by omega, by go_num, fun m hm => ?_, hb1'.out.trans (hbw'.out.mono hb1'.out.size), hz1'.out.below hbw'.out hz1'.out.lt⟩, by simp [intOf]; omega⟩
        rcases Nat.lt_or_ge m k with h' | h'
        · exact hno'.out m h'
        · obtain rfl : m = k := by omega
          exact hkb'.out
    · obtain rfl : k = 9 := by omega
      have h9 := Lib.hid (kOf_none hno'.out)
      have c0 := hl.cell 0
      have c1 := hl.cell 1
      have c2 := hl.cell 2
      have c3 := hl.cell 3
      have f0 := hl.free 0
      have f1 := hl.free 1
      have f2 := hl.free 2
      have f3 := hl.free 3
      clear hl
      go_wp2
      have hz3 := (show Has wr w.heap.size 242 #[.int .i64 0, .int .i64 0, .int .u8 0, .int .i64 0] from hz'.out).put4 (.int .i64 0) (.int .i64 0) (.int .u8 0) (.int .i64 0)
      have hB3 := below_put4 hb'.out (Nat.le_refl _) (.int .i64 0) (.int .i64 0) (.int .u8 0) (.int .i64 0)
      unfold putFour at hz3 hB3
      generalize (((wr.setCell _ _).setCell _ _).setCell _ _).setCell _ _ = w3 at hz3 hB3 ⊢
      have d0 := hz3.cell 0
      have d1 := hz3.cell 1
      have d2 := hz3.cell 2
      have d3 := hz3.cell 3
      refine bodyPost_ret (v := .tuple #[.agg #[.int .i64 0, .int .i64 0, .int .u8 0, .int .i64 0], .bool false]) (by simp [results, Tryz.results150, go_sem, d0, d1, d2, d3]) rfl ⟨?_, hB3⟩
      rw [h9.out, if_pos rfl]
      rfl

end Go.Proofs.YtlcfpnegpihicaaGreatDoor

namespace Go.Proofs.YtlcfpnegpihicaaGreatDoor
open Go.RowKit

/-! ## A jump on to a label that stands further on -/
theorem jump_ret {l : Nat} {J : Act → World → Prop} {Q : Exit → Act → World → Prop} {a : Act} {w : World} : Exit.jump l J Q .ret a w = Q .ret a w := rfl
end Go.Proofs.YtlcfpnegpihicaaGreatDoor

namespace Go.Proofs.YtlcfpnegpihicaaGreatDoor
open Go.RowKit

/-! ## What stands at the beginning of a text -/
def readV (l : List UInt8) : Array Value := #[.int .i64 ((look l).point : Int), .string ⟨(told l).toArray⟩, .int .i64 ((look l).size : Int), .int .i64 ((look l).st : Int)]
theorem byte_ltU (c : UInt8) : (c.toNat : Int) < 256 := by have := c.toNat_lt; omega
theorem or_next {p b : Nat} (hp : p < 4294967296) : bits .or .i64 ((p : Int) * 64) ((b : Int) % 64) = ((p * 64 + b % 64 : Nat) : Int) := by
  have h62 : (2 : Int) ^ 62 = 4611686018427387904 := by decide
  have := bits_join .i64 62 (by decide) wraps_i64 6 ((p : Int) * 64) ((b : Int) % 64) (by omega) (by show _ % 64 = 0; omega) (by omega) (by omega) (by show _ < 64; omega) (by omega)
  rw [this]; omega
/-- What a reading rests on, byte by byte. -/
def ReadRelU (l : List UInt8) (k j p : Nat) : Prop := 1 ≤ j ∧ j ≤ moreN k + 1 ∧ j ≤ l.length ∧ p < 128 * 64 ^ (j - 1) ∧ look l = goOn k (moreN k + 1 - j) j p (l.drop j)
theorem readRel_start {c : UInt8} {r : List UInt8} {k : Nat} (hk : kOf c.toNat = k) (h9 : k ≠ 9) : ReadRelU (c :: r) k 1 (c.toNat - markN k) := by
  refine ⟨Nat.le_refl _, by omega, by simp, ?_, ?_⟩
  · show _ < 128 * 64 ^ 0
    rcases kOf_row hk h9 with ⟨_, h, _, hm⟩ | ⟨_, h, h', _, hm⟩ | ⟨_, _, h, h', _, hm, _⟩ | ⟨_, _, h, h', _, hm, _⟩ <;> rw [hm] <;> omega
  · rw [look, hk, if_neg h9]; rfl
theorem readRel_next {l : List UInt8} {k j p : Nat} (h : ReadRelU l k j p) (hj : j ≤ moreN k) (hl : j < l.length) (hb : inR k j l[j].toNat) : ReadRelU l k (j + 1) (p * 64 + l[j].toNat % 64) := by
  obtain ⟨h1, h2, h3, h4, h5⟩ := h
  refine ⟨by omega, by omega, by omega, ?_, ?_⟩
  · have : 64 ^ (j + 1 - 1) = 64 ^ (j - 1) * 64 := by rw [← Nat.pow_succ]; congr 1; omega
    rw [this]
    omega
  · rw [h5, List.drop_eq_getElem_cons hl, show moreN k + 1 - j = (moreN k + 1 - (j + 1)) + 1 from by omega, goOn, if_pos hb]
theorem readRel_whole {l : List UInt8} {k p : Nat} (h : ReadRelU l k (moreN k + 1) p) : look l = ⟨p, moreN k + 1, 0⟩ := by
  rw [h.2.2.2.2, Nat.sub_self, goOn]
theorem readRel_short {l : List UInt8} {k p : Nat} (h : ReadRelU l k l.length p) (hj : l.length ≤ moreN k) : look l = ⟨65533, l.length, 2⟩ := by
  rw [h.2.2.2.2, List.drop_length, show moreN k + 1 - l.length = (moreN k - l.length) + 1 from by omega, goOn]
theorem readRel_broken {l : List UInt8} {k j p : Nat} (h : ReadRelU l k j p) (hj : j ≤ moreN k) (hl : j < l.length) (hb : ¬ inR k j l[j].toNat) : look l = ⟨65533, j, 1⟩ := by
  rw [h.2.2.2.2, List.drop_eq_getElem_cons hl, show moreN k + 1 - j = (moreN k - j) + 1 from by omega, goOn, if_neg hb]
theorem readRel_p {l : List UInt8} {k j p : Nat} (h : ReadRelU l k j p) : p < 33554432 := by
  have h2 := h.2.1
  have hm := moreN_le k
  have h3 := h.2.2.2.1
  have : 64 ^ (j - 1) ≤ 64 ^ 3 := Nat.pow_le_pow_right (by omega) (by omega)
  have : (64 : Nat) ^ 3 = 262144 := by decide
  omega
def ReadOk (l : List UInt8) (w : World) (e : Ending) (w' : World) : Prop := e = .returned (.agg (readV l)) ∧ Below w.heap.size w w'

/-- Four cells of a block. -/
abbrev Four (W : World) (k : Nat) (a b c d : Value) : Prop := W.cell? ⟨k, 0, none⟩ = some a ∧ W.cell? ⟨k, 1, none⟩ = some b ∧ W.cell? ⟨k, 2, none⟩ = some c ∧ W.cell? ⟨k, 3, none⟩ = some d
theorem Four.below {W W' : World} {k : Nat} {a b c d : Value} (h : Four W k a b c d) (hb : Below W.heap.size W W') (hk : k < W.heap.size) : Four W' k a b c d :=
  ⟨(hb.cell (p := ⟨k, 0, none⟩) hk).trans h.1, (hb.cell (p := ⟨k, 1, none⟩) hk).trans h.2.1, (hb.cell (p := ⟨k, 2, none⟩) hk).trans h.2.2.1, (hb.cell (p := ⟨k, 3, none⟩) hk).trans h.2.2.2⟩
theorem extract_take (s : ByteArray) (n : Nat) : s.extract 0 n = ⟨(s.data.toList.take n).toArray⟩ := by
  have h : (s.extract 0 n).data = (s.data.toList.take n).toArray := by
    rw [ByteArray.data_extract]
    apply Array.ext'
    simp
  cases h2 : s.extract 0 n with
  | mk d => rw [h2] at h; simp only at h; rw [h]
theorem read_close {l : List UInt8} {w W : World} {a b c d : Value} {tmps : Array Value} (h2 : tmps.getD 2 undef = .pointer (some ⟨w.heap.size, 0, none⟩)) (hB : Below w.heap.size w W)
    (hz : Has W w.heap.size 201 #[a, b, c, d]) (hv : readV l = #[a, b, c, d]) : bodyPost Tryz.prog Tryz.f134 (ReadOk l w) .ret { tmps := tmps, defers := [] } W :=
  bodyPost_ret (v := .agg #[a, b, c, d]) (results_cell_row Tryz.results134 tmps W w.heap.size _ _ (0, 0) _ h2 hz Tryz.underlying201 rfl (by kernel_rfl)) rfl ⟨by rw [hv], hB⟩
theorem readV_of {l : List UInt8} {p n s : Nat} (h : look l = ⟨p, n, s⟩) (t : List UInt8) (ht : told l = t) : readV l = #[.int .i64 (p : Int), .string ⟨t.toArray⟩, .int .i64 (n : Int), .int .i64 (s : Int)] := by
  unfold readV; rw [h, ht]
theorem told_inst {l : List UInt8} {p n s : Nat} (h : look l = ⟨p, n, s⟩) (hs : s ≠ 0) : told l = inst := by unfold told; rw [h]; exact if_neg hs
theorem told_take {l : List UInt8} {p n : Nat} (h : look l = ⟨p, n, 0⟩) : told l = l.take n := by unfold told; rw [h]; exact if_pos rfl

set_option maxRecDepth 100000 in
set_option maxHeartbeats 2000000 in
theorem read_anyU (s : ByteArray) (hm : s.size ≤ 9223372036854775807) (h0 : 0 < s.size) (w : World) (hT : TabU w) : Calls Tryz.prog 134 #[.string s] w (ReadOk s.data.toList w) := by
  have hT1 : TabU (w.alloc (.cells #[.int .i64 0, .string ⟨#[]⟩, .int .i64 0, .int .i64 0] 201)) := hT.below ((Below.refl _ _).alloc (Nat.le_refl _) _)
  have hl : s.data.toList.length = s.size := by simp only [Array.length_toList]; rfl
  obtain ⟨c, hcs⟩ : ∃ c : UInt8, s[0]'h0 = c := ⟨_, rfl⟩
  have hc := leadOf_any c.toNat _ hT1
  obtain ⟨r, hr⟩ : ∃ r, s.data.toList = c :: r := by
    obtain ⟨c', r, hcr⟩ : ∃ c r, s.data.toList = c :: r := by
      cases h : s.data.toList with
      | nil => rw [h] at hl; simp at hl; omega
      | cons c r => exact ⟨c, r, rfl⟩
    refine ⟨r, ?_⟩
    rw [hcr, ← hcs]
    congr 1
    have : s.data.toList[0]'(by omega) = s[0]'h0 := rfl
    rw [← this]
    simp [hcr]
  have hh0 := Lib.hid h0
  by_cases hk9 : kOf c.toNat = 9
  · rw [hk9] at hc
    have hc' := Lib.hid hc
    have hlook : look s.data.toList = ⟨65533, 1, 1⟩ := by rw [hr, look, if_pos hk9]
    have hlook' := Lib.hid hlook
    clear hc hlook hr hk9 hl
    go_enter Tryz.func134, Tryz.ntmps134
    go_wp2
    refine wp_scope_on 0 rfl ?_
    go_wp2_with (go_at_call 150; refine hc'.out.mono ?_; rintro e w1 ⟨rfl, hb1⟩; have hz1 := (Has.new w 201 #[.int .i64 0, .string ⟨#[]⟩, .int .i64 0, .int .i64 0]).below hb1 (by simp); have c0 := hz1.cell 0; have c1 := hz1.cell 1; have c2 := hz1.cell 2; have c3 := hz1.cell 3; have f0 := hz1.free 0; have f1 := hz1.free 1; have f2 := hz1.free 2; have f3 := hz1.free 3; have hlt1 := hz1.lt; have hb1' := Lib.hid hb1; have hz1' := Lib.hid hz1; clear hb1 hz1; unfold zeroRow; rw [if_pos rfl])
    go_step3
    refine ⟨rfl, ?_⟩
    go_wp2
    rw [Exit.noGoto_ret]
    have hB := below_on ((Below.refl w.heap.size w).alloc (Nat.le_refl _) _) hb1'.out
    have hB4 := fun a b c d => below_put4 hB (Nat.le_refl _) a b c d
    refine read_close rfl ((hB4 _ _ _ _).alloc (hB4 _ _ _ _).size _) ((hz1'.out.put4 _ _ _ _).alloc _) ?_
    exact readV_of hlook'.out inst (told_inst hlook'.out (by decide))
  · obtain ⟨k, hk⟩ : ∃ k, kOf c.toNat = k := ⟨_, rfl⟩
    rw [hk] at hc hk9
    have hstart := readRel_start (r := r) hk hk9
    rw [← hr] at hstart
    have hc' := Lib.hid hc
    have hmk : markN k ≤ c.toNat := by
      rcases kOf_row hk hk9 with ⟨_, h, _, hm⟩ | ⟨_, h, h', _, hm⟩ | ⟨_, _, h, h', _, hm, _⟩ | ⟨_, _, h, h', _, hm, _⟩ <;> rw [hm] <;> omega
    have hc256 := byte_ltU c
    have hm3 := moreN_le k
    have hsub : (c.toNat : Int) - (markN k : Int) = ((c.toNat - markN k : Nat) : Int) := by omega
    have hs' := Lib.hid hstart
    have hklt : k < 9 := by have := kOf_le c.toNat; omega
    have hk9' := Lib.hid hk9
    have hl' := Lib.hid hl
    clear hc hr hk9 hl hstart hk
    have hrow : rowV k = rowV k := rfl
    conv at hrow => rhs; unfold rowV
    have hrow' := Lib.hid hrow
    clear hrow
    go_enter Tryz.func134, Tryz.ntmps134
    go_wp2
    refine wp_scope_on 0 rfl ?_
    go_wp2_with (go_at_call 150; refine hc'.out.mono ?_; rintro e w1 ⟨rfl, hb1⟩; rw [if_neg hk9'.out, hrow'.out, show decide (k ≠ 9) = true from decide_eq_true hk9'.out]; have hz1 := (Has.new w 201 #[.int .i64 0, .string ⟨#[]⟩, .int .i64 0, .int .i64 0]).below hb1 (by simp); have hb1' := Lib.hid hb1; have hz1' := Lib.hid hz1; clear hb1 hz1)
    go_quiet (fail)
    go_wp2
    have hB1 := (below_on ((Below.refl w.heap.size w).alloc (Nat.le_refl _) (.cells #[.int .i64 0, .string ⟨#[]⟩, .int .i64 0, .int .i64 0] 201)) hb1'.out)
    go_loopw [3, 4, 5] (fun x3 x4 x5 wr => ∃ j p : Nat, x3 = .int .i64 (p : Int) ∧ x4 = .int .i64 (j : Int) ∧ x5 = .int .i64 1 ∧ ReadRelU s.data.toList k j p ∧ Below w.heap.size w wr ∧ Has wr w.heap.size 201 #[.int .i64 0, .string ⟨#[]⟩, .int .i64 0, .int .i64 0] ∧ Has wr w1.heap.size 242 (rowV k)) (fun _ x4 _ _ => moreN k + 1 - (intOf x4).toNat)
    case atStart =>
      refine ⟨1, c.toNat - markN k, ?_, rfl, rfl, hs'.out, ?_, ?_, ?_⟩
      · rw [← hsub]
      · exact below_draws (hB1.alloc hB1.size _) _
      · exact (hz1'.out.alloc _).drewN _
      · rw [hrow'.out]; exact (Has.new _ _ _).drewN _
    case round =>
      obtain ⟨j, p, rfl, rfl, rfl, hrel, hb, hz, hx⟩ := hrel
      have hj1 := hrel.1
      have hj2 := hrel.2.1
      have hjl := hrel.2.2.1
      have hp := readRel_p hrel
      rw [hl'.out] at hjl
      have hrel' := Lib.hid hrel
      have hb' := Lib.hid hb
      have hz' := Lib.hid hz
      have hx' := Lib.hid hx
      rw [hrow'.out] at hx
      have e3 := hx.cell 3
      have hlz := hz.lt
      have hlx := hx.lt
      clear hrel hb hz hx
      by_cases hj : j ≤ moreN k
      · by_cases hlen : j < s.size
        · obtain ⟨b, hsb⟩ : ∃ b, s[j]'hlen = b := ⟨_, rfl⟩
          have hlb : ∃ h : j < s.data.toList.length, s.data.toList[j]'h = b := ⟨by rw [hl'.out]; exact hlen, by rw [← hsb]; rfl⟩
          have hlb' := Lib.hid hlb
          have hb256 := byte_ltU b
          have hxl := hx'.out
          rw [hrow'.out] at hxl
          have hr0 : Four wr.drew w1.heap.size (.int .i64 (leastN k)) (.int .i64 (mostN k)) (.int .u8 (markN k : Int)) (.int .i64 (moreN k : Int)) := ⟨hxl.cell 0, hxl.cell 1, hxl.cell 2, hxl.cell 3⟩
          clear hxl
          have htk := takes_any k b.toNat j wr.drew hklt hj
          rw [takes_in hklt hj1 hj, hrow'.out] at htk
          have hor := Lib.hid (or_next (p := p) (b := b.toNat) (by omega))
          have hlt0 := (show w1.heap.size < wr.drew.heap.size from hlx)
          clear hlb e3
          by_cases hin : inR k j b.toNat
          · rw [decide_eq_true hin] at htk
            have htk' := Lib.hid htk
            have hin' := Lib.hid hin
            clear htk hin
            have e3 : wr.cell? ⟨w1.heap.size, 3, none⟩ = some (.int .i64 (moreN k : Int)) := hr0.2.2.2
            go_wp2
            go_region_held3 (fun w' => Four w' w1.heap.size (.int .i64 (leastN k)) (.int .i64 (mostN k)) (.int .u8 (markN k : Int)) (.int .i64 (moreN k : Int))) (first | exact hr0 | exact hr2)
              ((go_at_call 151; refine htk'.out.mono ?_; rintro e w2 ⟨rfl, hbw⟩; have hbw' := Lib.hid hbw; have hr2 := hr0.below hbw hlt0; clear hbw))
            go_wp2
            have hbd : Below w.heap.size w wr.drew := below_draws hb'.out 1
            obtain ⟨hlj, hbj⟩ := hlb'.out
            refine ⟨⟨j + 1, p * 64 + b.toNat % 64, by rw [hor.out], by go_num, rfl, ?_, hbd.trans (hbw'.out.mono hbd.size), hz'.out.drew.below hbw'.out hlz, hx'.out.drew.below hbw'.out hlx⟩, by simp [intOf]; omega⟩
            rw [← hbj] at hin' ⊢
            exact readRel_next hrel'.out hj hlj hin'.out
          · rw [decide_eq_false hin] at htk
            have htk' := Lib.hid htk
            have hin' := Lib.hid hin
            clear htk hin
            have e3 : wr.cell? ⟨w1.heap.size, 3, none⟩ = some (.int .i64 (moreN k : Int)) := hr0.2.2.2
            go_wp2
            go_region_held3 (fun w' => Four w' w1.heap.size (.int .i64 (leastN k)) (.int .i64 (mostN k)) (.int .u8 (markN k : Int)) (.int .i64 (moreN k : Int))) (first | exact hr0 | exact hr2)
              ((go_at_call 151; refine htk'.out.mono ?_; rintro e w2 ⟨rfl, hbw⟩; have hbw' := Lib.hid hbw; have hr2 := hr0.below hbw hlt0; clear hbw))
            have hzl := hz'.out.drew.below hbw'.out hlz
            have c0 := hzl.cell 0
            have c1 := hzl.cell 1
            have c2 := hzl.cell 2
            have c3 := hzl.cell 3
            have f0 := hzl.free 0
            have f1 := hzl.free 1
            have f2 := hzl.free 2
            have f3 := hzl.free 3
            have hzl' := Lib.hid hzl
            clear hzl
            go_wp2
            go_step3
            refine ⟨rfl, ?_⟩
            go_wp2
            rw [Exit.noGoto_ret]
            have hbd : Below w.heap.size w wr.drew := below_draws hb'.out 1
            refine read_close rfl (below_put4 (hbd.trans (hbw'.out.mono hbd.size)) (Nat.le_refl _) _ _ _ _) (hzl'.out.put4 _ _ _ _) ?_
            obtain ⟨hlj, hbj⟩ := hlb'.out
            rw [← hbj] at hin'
            have hlk := readRel_broken hrel'.out hj hlj hin'.out
            exact readV_of hlk inst (told_inst hlk (by decide))
        · obtain rfl : j = s.size := by omega
          have hlk := Lib.hid (readRel_short (l := s.data.toList) (by rw [hl'.out]; exact hrel'.out) (by rw [hl'.out]; exact hj))
          have hzl := hz'.out
          have c0 := hzl.cell 0
          have c1 := hzl.cell 1
          have c2 := hzl.cell 2
          have c3 := hzl.cell 3
          have f0 := hzl.free 0
          have f1 := hzl.free 1
          have f2 := hzl.free 2
          have f3 := hzl.free 3
          clear hzl
          go_wp2
          go_step3
          refine ⟨rfl, ?_⟩
          go_wp2
          rw [Exit.noGoto_ret]
          refine read_close rfl (below_put4 hb'.out (Nat.le_refl _) _ _ _ _) (hz'.out.put4 _ _ _ _) ?_
          rw [hl'.out] at hlk
          exact readV_of hlk.out inst (told_inst hlk.out (by decide))
      · obtain rfl : j = moreN k + 1 := by omega
        have hlk := Lib.hid (readRel_whole hrel'.out)
        have hzl := hz'.out
        have c0 := hzl.cell 0
        have c1 := hzl.cell 1
        have c2 := hzl.cell 2
        have c3 := hzl.cell 3
        have f0 := hzl.free 0
        have f1 := hzl.free 1
        have f2 := hzl.free 2
        have f3 := hzl.free 3
        clear hzl
        go_wp2
        rw [jump_ret]
        refine read_close rfl (below_put4 hb'.out (Nat.le_refl _) _ _ _ _) (hz'.out.put4 _ _ _ _) ?_
        rw [readV_of hlk.out _ (told_take hlk.out), extract_take]
        rfl
end Go.Proofs.YtlcfpnegpihicaaGreatDoor

namespace Go.Proofs.YtlcfpnegpihicaaGreatDoor
open Go.RowKit
attribute [local go_sem] Oper.semAt_some
attribute [local go_sem] wide_fn wide_depth wide_round

/-! ## What stands in a text, one by one -/
/-- A block of cells lies as it lay, but for those of which S holds, and rows of bytes from n0 on. -/
structure KeepC (n0 : Nat) (S : Nat → Prop) (W W' : World) : Prop where
  size : W.heap.size ≤ W'.heap.size
  kept : ∀ k t cs, Has W k t cs → (k < n0 ∨ t ≠ 5) → ¬ S k → Has W' k t cs
section
variable {n0 : Nat} {S : Nat → Prop} {A B C : World}
theorem KeepC.refl (n0 : Nat) (S : Nat → Prop) (W : World) : KeepC n0 S W W := ⟨Nat.le_refl _, fun _ _ _ h _ _ => h⟩
theorem KeepC.trans (h : KeepC n0 S A B) (k : KeepC n0 S B C) : KeepC n0 S A C := ⟨Nat.le_trans h.size k.size, fun j t cs h1 h2 h3 => k.kept j t cs (h.kept j t cs h1 h2 h3) h2 h3⟩
theorem KeepC.below (h : Below A.heap.size A B) : KeepC n0 S A B := ⟨h.size, fun _ _ _ h1 _ _ => h1.below h h1.lt⟩
theorem KeepC.alloc (h : KeepC n0 S A B) (o : Obj) : KeepC n0 S A (B.alloc o) := h.trans (.below ((Below.refl _ _).alloc (Nat.le_refl _) _))
theorem KeepC.drewN (h : KeepC n0 S A B) (q : Nat) : KeepC n0 S A (B.drewN q) := ⟨h.size, h.kept⟩
theorem KeepC.setCell (h : KeepC n0 S A B) {p : Addr} (hp : S p.block) (u : Value) : KeepC n0 S A (B.setCell p u) :=
  h.trans ⟨by simp [World.setCell], fun k _ _ h1 _ h3 => (Below.heap_setCell B p u k (fun e => h3 (e ▸ hp))).trans h1⟩
theorem KeepC.putObj (W : World) (l : Nat) (o o' : Obj) (h : W.heap[l]? = some o) (hc : o.isCells = false) : KeepC n0 S W (W.putObj l o') := ⟨by simp [World.putObj], fun k t cs h1 _ _ => by
  refine h1.put_obj _ (fun e => ?_)
  subst e
  have h1' : W.heap[k]? = some (.cells cs t (0, 0)) := h1
  rw [h] at h1'
  rw [Option.some.inj h1'] at hc
  cases hc⟩
theorem KeepC.has {k : Nat} {t : TypeId} {cs : Array Value} (h : KeepC n0 S A B) (ht : k < n0 ∨ t ≠ 5) (hk : ¬ S k) (hh : Has A k t cs) : Has B k t cs := h.kept k t cs hh ht hk
theorem KeepC.tab (h : KeepC n0 S A B) (hn : 6 < n0) (hk : ¬ S 6) (hT : TabU A) : TabU B := by
  obtain ⟨t, cs, h1, h2⟩ := hT
  exact ⟨t, cs, h.has (.inl hn) hk h1, h2⟩
/-- A row of bytes of the call's own has grown. -/
theorem KeepC.grown (h : KeepC n0 S A B) {row : Option Nat} (hg : B.grownBy C row) (hr : ∀ g, row = some g → n0 ≤ g ∧ ∃ cs, Has B g 5 cs) : KeepC n0 S A C :=
  h.trans ⟨hg.size, fun k t cs h1 h2 _ => by
    refine (hg.block k h1.lt (fun e => ?_)).trans h1
    obtain ⟨hn, cs', hh⟩ := hr k e.symm
    have h1' : B.heap[k]? = some (.cells cs t (0, 0)) := h1
    have hh' : B.heap[k]? = some (.cells cs' 5 (0, 0)) := hh
    rw [hh'] at h1'
    injection h1' with h1'
    injection h1' with _ h1' _
    rcases h2 with h2 | h2
    · omega
    · exact h2 h1'.symm⟩
theorem grown_belowU (h : Below A.heap.size A B) : A.grownBy B none := ⟨h.os, h.tape, h.output, h.size, fun k hk _ => h.block k hk⟩
end
/-- What is told at a place: the place, and what stands there. -/
def encRd (l : List UInt8) (x : Fin l.length) : Array Value := #[.int .i64 ((x.val : Nat) : Int), .agg (readV (l.drop x.val))]
theorem extract_to_end (s : ByteArray) (a : Nat) : (s.extract a s.size).data.toList = s.data.toList.drop a := by
  have : s.size = s.data.size := rfl
  rw [ByteArray.data_extract, Array.toList_extract, this, ← Array.length_toList]
  rw [List.extract_eq_take_drop]
  exact List.take_of_length_le (by rw [List.length_drop]; omega)
theorem extract_size (s : ByteArray) (a : Nat) : (s.extract a s.size).size = s.size - a := by
  have h := congrArg List.length (extract_to_end s a)
  rw [List.length_drop] at h
  have e : ∀ x : ByteArray, x.data.toList.length = x.size := fun x => by simp only [Array.length_toList]; rfl
  rw [e, e] at h
  exact h

/-- A part of the places, from the first one on. -/
def Part (L : List UInt8) (pre : List (Fin L.length)) (p : Nat) : Prop := pre.map Fin.val ++ placesFrom L p = placesFrom L 0
theorem part_next {L : List UInt8} {pre : List (Fin L.length)} {p : Nat} (h : Part L pre p) (hp : p < L.length) : Part L (pre ++ [⟨p, hp⟩]) (p + (lookAt L p).size) := by
  unfold Part at *
  rw [← h, places_step hp]
  simp

set_option maxRecDepth 100000 in
set_option maxHeartbeats 2000000 in
theorem readings1_in (n : Nat) (hn : 1 ≤ n) (s : ByteArray) (hm : s.size ≤ 9223372036854775807) (l B n0 : Nat) (Wr : Nat → Prop) (hWr : ∀ k, Wr k → k < n0) (hB : ¬ Wr B) (hG : ¬ Wr 6) (hgn : 6 < n0) (J Jx : List (Fin s.data.toList.length) → World → Prop)
    (hJ : ∀ ys W W', J ys W → Below W.heap.size W W' → J ys W')
    (hY : ∀ pre y W, J pre W → pre.length < s.size → YieldAt Fence.wide (n - 1) Tryz.prog l (encRd s.data.toList y) W fun e W' =>
      (e = .returned (.bool true) ∧ J (pre ++ [y]) W' ∧ KeepC n0 Wr W W') ∨ (e = .returned (.bool false) ∧ Jx (pre ++ [y]) W'))
    (W : World) (hn0 : n0 ≤ W.heap.size) (hT : TabU W) (h : Has W B 9 #[.string s]) (h0 : J [] W) :
    CallsIn Fence.wide n Tryz.prog 133 #[.func (.yield l) #[] #[], .pointer (some ⟨B, 0, none⟩)] W fun e W' => (∃ v, e = .returned v) ∧
      ((∃ ys, Part s.data.toList ys s.size ∧ J ys W') ∨ (∃ pre, (∃ p, p ≤ s.size ∧ Part s.data.toList pre p) ∧ Jx pre W')) := by
  have hl : s.data.toList.length = s.size := by simp only [Array.length_toList]; rfl
  refine callsIn_of_wp Tryz.func133 rfl trivial ?_ rfl
  simp only [Tryz.ntmps133, List.size_toArray, List.length_cons, List.length_nil, Nat.reduceAdd, Nat.reduceSub, Array.replicate_succ, Array.replicate_zero, List.push_toArray, List.append_toArray, List.nil_append, List.cons_append]
  have hl' := Lib.hid hl
  have h' := Lib.hid h
  have hT' := Lib.hid hT
  clear h hT hl
  gi_wp2
  gi_loopw [3] (fun x wr => ∃ (p : Nat) (pre : List (Fin s.data.toList.length)), p ≤ s.size ∧ x = .int .i64 (p : Int) ∧ Part s.data.toList pre p ∧ pre.length ≤ p ∧ J pre wr ∧ KeepC n0 Wr W wr ∧ W.heap.size ≤ wr.heap.size)
    (fun x _ => s.size - (intOf x).toNat)
  case atStart => exact ⟨0, [], Nat.zero_le _, rfl, rfl, Nat.le_refl _, h0, KeepC.refl _ _ _, Nat.le_refl _⟩
  case round =>
    obtain ⟨p, pre, hp, rfl, hpart, hpl, hJs, hK, hsz⟩ := hrel
    have hK' := Lib.hid hK
    have hpart' := Lib.hid hpart
    have hb := hK.has (.inr (by decide)) hB h'.out
    have c0 : wr.cell? ⟨B, 0, none⟩ = some (.string s) := hb.cell 0
    have hTw : TabU wr := hK.tab hgn hG hT'.out
    clear hK hpart hb
    by_cases hlt : p < s.size
    · have hlt2 : p < s.data.toList.length := by rw [hl'.out]; exact hlt
      have hrd := read_anyU (s.extract p s.size) (by rw [extract_size]; omega) (by rw [extract_size]; omega) wr hTw
      rw [extract_to_end] at hrd
      have hrd' := Lib.hid (callsIn_wide (n := n - 1).2 hrd)
      have hla := lookAt_le hlt2
      rw [hl'.out] at hla
      unfold lookAt at hla
      have hV : readV (s.data.toList.drop p) = readV (s.data.toList.drop p) := rfl
      conv at hV => rhs; unfold readV
      have hV' := Lib.hid hV
      have hsize : ∃ z, (look (s.data.toList.drop p)).size = z := ⟨_, rfl⟩
      obtain ⟨z, hz⟩ := hsize
      have hz' := Lib.hid hz
      rw [hz] at hla hV'
      clear hrd hV hz
      have hRL := Lib.hid (rfl : readV (s.data.toList.drop p) = readV (s.data.toList.drop p))
      generalize (look (s.data.toList.drop p)).point = pt at hV' ⊢
      generalize (told (s.data.toList.drop p)).toArray = td at hV' ⊢
      generalize (look (s.data.toList.drop p)).st = sv at hV' ⊢
      gi_wp2_with fail
      refine hrd'.out.mono ?_
      rintro e w2 ⟨rfl, hb2⟩
      rw [hV'.out]
      have hb3 : Below wr.heap.size wr (w2.alloc (.cells #[.int .i64 (pt : Int), .string ⟨td⟩, .int .i64 (z : Int), .int .i64 (sv : Int)] 201)) := hb2.alloc hb2.size _
      obtain ⟨fn, tmps, assign, body, hy, hR⟩ := hY pre ⟨p, hlt2⟩ _ (hJ _ _ _ hJs hb3) (by omega)
      have hy' : (Instr.yield l #[.int .i64 (p : Int), .agg #[.int .i64 (pt : Int), .string ⟨td⟩, .int .i64 (z : Int), .int .i64 (sv : Int)]]).run Tryz.prog (w2.alloc (.cells #[.int .i64 (pt : Int), .string ⟨td⟩, .int .i64 (z : Int), .int .i64 (sv : Int)] 201)) = .ok (Next.round l fn tmps assign body) (w2.alloc (.cells #[.int .i64 (pt : Int), .string ⟨td⟩, .int .i64 (z : Int), .int .i64 (sv : Int)] 201)) := by
        rw [← hV'.out]; rw [← hV'.out] at hy; exact hy
      have hR2 := Lib.hid (hR.mono (R' := fun e W' => ∃ b, e = .returned (.bool b) ∧ YPost J Jx (KeepC n0 Wr) (pre ++ [⟨p, hlt2⟩]) (w2.alloc (.cells #[.int .i64 (pt : Int), .string ⟨td⟩, .int .i64 (z : Int), .int .i64 (sv : Int)] 201)) b W') (by
        rintro e W' (⟨rfl, h1, h2⟩ | ⟨rfl, h1⟩)
        · exact ⟨true, rfl, h1, h2⟩
        · exact ⟨false, rfl, h1⟩))
      have hX := Lib.hid (Has.new w2 201 #[.int .i64 (pt : Int), .string ⟨td⟩, .int .i64 (z : Int), .int .i64 (sv : Int)])
      have hb3' := Lib.hid hb3
      have hw2n := Lib.hid (Nat.le_trans hn0 (Nat.le_trans hsz hb2.size))
      have hnext := Lib.hid (part_next hpart'.out hlt2)
      rw [show (lookAt s.data.toList p).size = z from hz'.out] at hnext
      clear hy hR hb3 hJs hV' hb2
      gi_wp2
      refine hR2.out.mono ?_
      rintro e W3 ⟨b, rfl, hP⟩
      cases b
      · have hP' := Lib.hid (show Jx (pre ++ [⟨p, hlt2⟩]) W3 from hP)
        clear hP
        gi_wp2
        refine bodyPost_ret (results_none rfl _ _ _) rfl ?_
        exact ⟨⟨_, rfl⟩, .inr ⟨_, ⟨p + z, hla.1, hnext.out⟩, hP'.out⟩⟩
      · have hP' := Lib.hid (show J (pre ++ [⟨p, hlt2⟩]) W3 ∧ KeepC n0 Wr (w2.alloc (.cells #[.int .i64 (pt : Int), .string ⟨td⟩, .int .i64 (z : Int), .int .i64 (sv : Int)] 201)) W3 from hP)
        clear hP
        have hX3 := hP'.out.2.has (.inr (by decide)) (fun h => by have := hWr _ h; have := hw2n.out; omega) hX.out
        have c2 := hX3.cell 2
        clear hX3
        gi_wp2
        have hKf := (hK'.out.trans (KeepC.below hb3'.out)).trans hP'.out.2
        exact ⟨⟨p + z, pre ++ [⟨p, hlt2⟩], hla.1, by go_num, hnext.out, by simp; omega, hP'.out.1, hKf, hKf.size⟩, by simp [intOf]; omega⟩
    · obtain rfl : p = s.size := by omega
      gi_wp2
      go_end0
      exact ⟨⟨_, rfl⟩, .inl ⟨_, hpart'.out, hJs⟩⟩
/-- What stands in a text, gone over. -/
theorem readings_stops (n : Nat) (hn : 1 ≤ n) (s : ByteArray) (hm : s.size ≤ 9223372036854775807) (B : Nat) (Wr : Nat → Prop) (w : World) (hWr : ∀ k, Wr k → k < w.heap.size) (hB : ¬ Wr B) (hG : ¬ Wr 6) (hT : TabU w) (h : Has w B 9 #[.string s]) :
    SeqStopsK Fence.wide n Tryz.prog 133 #[.pointer (some ⟨B, 0, none⟩)] (encRd s.data.toList) (KeepC w.heap.size Wr) (fun ys => Part s.data.toList ys s.size) (fun pre => ∃ p, p ≤ s.size ∧ Part s.data.toList pre p) s.size w := fun l J Jx W hW hA _ hY h0 =>
  readings1_in n hn s hm l B w.heap.size Wr hWr hB hG hT.lt J Jx (fun ys W1 W2 h1 h2 => hA ys W1 W2 none h1 (grown_belowU h2) (fun r e => by cases e)) hY W hW.size (hT.below hW) (h.below hW h.lt) h0
theorem readings_any (s : ByteArray) (w : World) : Calls Tryz.prog 111 #[.string s] w fun e w' => e = .returned (.func (.func 133) #[] #[.pointer (some ⟨w.heap.size, 0, none⟩)]) ∧ w' = w.alloc (.cells #[.string s] 9) := by
  go_enter Tryz.func111, Tryz.ntmps111
  go_wp2
  go_ret
  exact ⟨rfl, rfl⟩
end Go.Proofs.YtlcfpnegpihicaaGreatDoor
