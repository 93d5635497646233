import Derived.Shelf.Small.Strs
import Derived.Shelf.Strings.Search1
import Derived.Shelf.Strings.Split
import Derived.Test.YtlcfpnegpihicaaGreatDoorProg
import Derived.Test.YtlcfpnegpihicaaGreatDoorPw8
import Derived.WalkLawsBesides
import Derived.Test.YtlcfpnegpihicaaGreatDoorPw1
import Derived.Deep.RegionHeld3
import Derived.StillTailTactics
import Derived.Test.YtlcfpnegpihicaaGreatDoorPw2
import Derived.Defers
import Derived.Recover
import Derived.Laws.Pointers
/- The contracts of the library that these proofs lean on, laid at this program by the guide's own command, in plain words. -/
namespace Go.Proofs
open Go.Shelf
def Tryz.lays137_ren : Go.Shelf.Ren := ⟨fun | 137 => 92 | 217 => 112 | 266 => 135 | n => n, fun | 9 => 9 | 5 => 5 | 3 => 3 | n => n, fun | n => n⟩
theorem Tryz.lays137 : Go.Proofs.Lays.n137 Tryz.prog Tryz.lays137_ren := {
  mixed := by kernel_rfl
  f137 := Tryz.func92.trans (congrArg some (by kernel_rfl))
  f217 := Tryz.func112.trans (congrArg some (by kernel_rfl))
  f266 := Tryz.func135.trans (congrArg some (by kernel_rfl))
  t3 := Tryz.underlying3
  a3 := Tryz.isAgg3
  z3 := Tryz.sizeOf3
  v3 := Tryz.zeroValue3
  t5 := Tryz.underlying5
  a5 := Tryz.isAgg5
  z5 := Tryz.sizeOf5
  v5 := Tryz.zeroValue5
  t9 := Tryz.underlying9
  a9 := Tryz.isAgg9
  z9 := Tryz.sizeOf9
  v9 := Tryz.zeroValue9 }
open Go.RowKit in
theorem Tryz.strings_IndexByte (s : ByteArray) (c : Int) (w : World) :
    Calls Tryz.prog 92 #[.string s, .int .u8 c] w fun e w' => e = .returned (.int .i64 (Lib.indexByte s.data.toList c.toNat.toUInt8)) ∧ w' = w := Any.strings_IndexByte Tryz.lays137 s c w
end Go.Proofs

namespace Go.Proofs.YtlcfpnegpihicaaGreatDoor
open Go.RowKit Go.Shelf
attribute [local go_sem] Oper.semAt_some

/-! ## Parts, as the library cuts them -/
/-! ## mustFit -/
def refuseV (n : Int) : Value := .iface 144 (.agg #[.int .i64 n])
def refuseE (n : Int) : Ending := .panicked [{ v := refuseV n, recovered := false }]
def totalL (ls : List (List UInt8)) : Nat := (ls.map List.length).sum
theorem totalL_snoc (ls : List (List UInt8)) (y : List UInt8) : totalL (ls ++ [y]) = totalL ls + y.length := by unfold totalL; simp
theorem totalL_take {ls : List (List UInt8)} {k : Nat} {y : List UInt8} (h : ls[k]? = some y) : totalL (ls.take (k + 1)) = totalL (ls.take k) + y.length := by
  obtain ⟨hk, rfl⟩ := List.getElem?_eq_some_iff.1 h
  rw [List.take_succ_eq_append_getElem hk, totalL_snoc]
theorem totalL_le (ls : List (List UInt8)) (k : Nat) : totalL (ls.take k) ≤ totalL ls := by
  conv => rhs; rw [← List.take_append_drop k ls]
  unfold totalL; rw [List.map_append, List.sum_append]; omega
set_option maxRecDepth 100000 in
set_option maxHeartbeats 2000000 in
theorem mustFit_any (k : Nat) (ls : List (List UInt8)) (n c : Nat) (cs : Array Value) (w : World) (hn : n = ls.length) (hn2 : n ≤ 1000) (hk : Has w k 9 cs) (hcs : ∀ (j : Nat) (y : List UInt8), ls[j]? = some y → cs[j]? = some (Value.string ⟨y.toArray⟩) ∧ y.length ≤ 1099511627776) :
    Calls Tryz.prog 66 #[.slice (some ⟨k, 0, none⟩) n c] w fun e w' => ((totalL ls ≤ 65536 ∧ e = .returned (.tuple #[])) ∨ (65536 < totalL ls ∧ e = refuseE 2)) ∧ w' = w := by
  have hcs' := Lib.hid hcs
  have hk' := Lib.hid hk
  have hn' := Lib.hid hn
  clear hcs hk hn
  go_enter Tryz.func66, Tryz.ntmps66
  go_wp2
  go_loopw [2, 7] (fun l x wr => ∃ j L : Nat, j ≤ n ∧ x = .int .i64 (j : Int) ∧ totalL (ls.take j) + L = 65536 ∧ l = .int .i64 (L : Int) ∧ wr = w) (fun _ x _ => n - (intOf x).toNat)
  case atStart => exact ⟨0, 65536, Nat.zero_le _, rfl, by simp [totalL], rfl, rfl⟩
  case round =>
    obtain ⟨j, L, hj, rfl, ht, rfl, rfl⟩ := hrel
    have ht' := Lib.hid ht
    clear ht
    by_cases hlt : j < n
    · have hltI : (j : Int) < (n : Int) := by omega
      obtain ⟨y, hy⟩ : ∃ y, ls[j]? = some y := ⟨ls[j]'(by have := hn'.out; omega), List.getElem?_eq_getElem _⟩
      obtain ⟨hc, hyl⟩ := hcs'.out j y hy
      have ck := hk'.out.cell j
      rw [hc] at ck
      have hts := Lib.hid (totalL_take hy)
      have hy' := Lib.hid hy
      clear hy hc
      by_cases hf : y.length ≤ L
      · have hfI : decide (L < y.length) = false := decide_eq_false (by omega)
        have hfI2 : ¬ (L : Int) < (y.length : Int) := by omega
        have hL : L ≤ 65536 := by have := ht'.out; omega
        go_wp2
        exact ⟨⟨j + 1, L - y.length, by omega, by go_num, by rw [hts.out]; have := ht'.out; omega, by go_num, trivial⟩, by simp [intOf]; omega⟩
      · have hfI : decide (L < y.length) = true := decide_eq_true (by omega)
        have hfI2 : (L : Int) < (y.length : Int) := by omega
        go_wp2
        refine ⟨rfl, .inr ⟨?_, rfl⟩, rfl⟩
        have := totalL_le ls (j + 1)
        rw [hts.out] at this
        have := ht'.out
        omega
    · obtain rfl : j = n := by omega
      go_wp2
      go_end0
      refine ⟨.inl ⟨?_, rfl⟩, rfl⟩
      have := ht'.out
      rw [List.take_of_length_le (by have := hn'.out; omega)] at this
      omega
/-! ## mustBeClean -/
def SgT (w : World) : Prop := w.cell? ⟨1, 0, none⟩ = some (.int .u8 13) ∧ w.cell? ⟨1, 1, none⟩ = some (.int .u8 10) ∧ w.cell? ⟨1, 2, none⟩ = some (.int .u8 0)
theorem SgT.lt {w : World} (h : SgT w) : 1 < w.heap.size := World.block_lt_of_cell? w _ h.1
theorem SgT.below {w w' : World} (h : SgT w) (hb : Below w.heap.size w w') : SgT w' := ⟨(hb.cell h.lt).trans h.1, (hb.cell h.lt).trans h.2.1, (hb.cell h.lt).trans h.2.2⟩
theorem ibE_no (c : UInt8) : ∀ (l : List UInt8), c ∉ l → Lib.indexByte l c = -1
  | [], _ => rfl
  | b :: r, h => by
    simp only [List.mem_cons, not_or] at h
    have hb : ¬ b = c := fun e => h.1 e.symm
    simp [Lib.indexByte, hb, ibE_no c r h.2]
theorem ibE_yes (c : UInt8) : ∀ (l : List UInt8), c ∈ l → 0 ≤ Lib.indexByte l c
  | [], h => absurd h (by simp)
  | b :: r, h => by
    by_cases hb : b = c
    · simp [Lib.indexByte, hb]
    · have hr : c ∈ r := by
        rcases List.mem_cons.1 h with e | e
        · exact absurd e.symm hb
        · exact e
      have := ibE_yes c r hr
      simp only [Lib.indexByte, beq_iff_eq, hb, if_false]
      split <;> omega
/-- None of the first j signs is in a text. -/
def NoneOf (s : List UInt8) (j : Nat) : Prop := ∀ b ∈ barL.take j, b ∉ s
theorem cleanB_iff (s : List UInt8) (n : Nat) : cleanB s n = true ↔ soundB s = true ∧ NoneOf s n := by
  unfold cleanB NoneOf
  simp [List.all_eq_true]
theorem noneOf_le {s : List UInt8} {i j : Nat} (h : NoneOf s j) (hij : i ≤ j) : NoneOf s i := fun b hb => h b (by
  rw [← Nat.min_eq_left hij, ← List.take_take] at hb
  exact List.mem_of_mem_take hb)
theorem noneOf_succ {s : List UInt8} {j : Nat} {c : UInt8} (hc : barL[j]? = some c) : NoneOf s (j + 1) ↔ NoneOf s j ∧ c ∉ s := by
  obtain ⟨hj, rfl⟩ := List.getElem?_eq_some_iff.1 hc
  unfold NoneOf
  rw [List.take_succ_eq_append_getElem hj]
  constructor
  · intro h
    exact ⟨fun b hb => h b (List.mem_append_left _ hb), h _ (List.mem_append_right _ (List.mem_singleton.2 rfl))⟩
  · rintro ⟨h1, h2⟩ b hb
    rcases List.mem_append.1 hb with hb | hb
    · exact h1 b hb
    · rw [List.mem_singleton.1 hb]; exact h2
def CleanR (s : List UInt8) (n : Nat) (w : World) (e : Ending) (w' : World) : Prop :=
  ((cleanB s n = true ∧ e = .returned (.tuple #[])) ∨ (cleanB s n = false ∧ e = refuseE 2)) ∧ Below w.heap.size w w'
set_option maxRecDepth 100000 in
set_option maxHeartbeats 4000000 in
theorem clean_any (s : List UInt8) (n : Nat) (w : World) (hn : n ≤ 3) (hl : s.length ≤ 1099511627776) (hT : TabU w) (hS : SgT w) :
    Calls Tryz.prog 68 #[.string ⟨s.toArray⟩, .int .i64 (n : Int)] w (CleanR s n w) := by
  have hso := Lib.hid (sound_any ⟨s.toArray⟩ w (by show s.toArray.size ≤ _; simp; omega) hT)
  have hS' := Lib.hid hS
  clear hT hS
  unfold CleanR
  go_enter Tryz.func68, Tryz.ntmps68
  go_wp2_with fail
  refine hso.out.mono ?_
  rintro e w1 ⟨rfl, hb1⟩
  have hS1 := Lib.hid (hS'.out.below hb1)
  have hb1' := Lib.hid hb1
  clear hb1
  cases hs : soundB s with
  | false =>
    have hno : cleanB s n = false := by unfold cleanB; rw [hs]; rfl
    go_wp2
    exact ⟨rfl, .inr ⟨hno, rfl⟩, hb1'.out⟩
  | true =>
    have hs' := Lib.hid hs
    clear hs
    go_wp2
    go_loopw [11] (fun x wr => ∃ j : Nat, j ≤ n ∧ x = .int .i64 (j : Int) ∧ NoneOf s j ∧ wr = w1) (fun x _ => n - (intOf x).toNat)
    case atStart => exact ⟨0, Nat.zero_le _, rfl, fun b hb => by simp at hb, rfl⟩
    case round =>
      obtain ⟨j, hj, rfl, hno, rfl⟩ := hrel
      have hno' := Lib.hid hno
      clear hno
      by_cases hlt : j < n
      · have hltI : (j : Int) < (n : Int) := by omega
        obtain ⟨c, hc, hcell⟩ : ∃ c : UInt8, barL[j]? = some c ∧ wr.cell? ⟨1, j, none⟩ = some (.int .u8 (c.toNat : Int)) := by
          have : j = 0 ∨ j = 1 ∨ j = 2 := by omega
          rcases this with rfl | rfl | rfl
          · exact ⟨13, rfl, hS1.out.1⟩
          · exact ⟨10, rfl, hS1.out.2.1⟩
          · exact ⟨0, rfl, hS1.out.2.2⟩
        have hib := Tryz.strings_IndexByte ⟨s.toArray⟩ (c.toNat : Int) wr
        have hge := Lib.indexByte_ge s c
        rw [show ((c.toNat : Int)).toNat.toUInt8 = c by simp, show (⟨s.toArray⟩ : ByteArray).data.toList = s from rfl] at hib
        by_cases hm : c ∈ s
        · have hy := ibE_yes c s hm
          have hbad := Lib.hid (show cleanB s n = false from by
            cases h : cleanB s n with
            | false => rfl
            | true =>
              have := ((noneOf_succ hc).1 (noneOf_le ((cleanB_iff s n).1 h).2 (by omega : j + 1 ≤ n))).2
              exact absurd hm this)
          generalize Lib.indexByte s c = z at hib hge hy
          have hib' := Lib.hid hib
          clear hc hm hib
          go_wp2_with (go_at_call 92; (with_reducible refine Calls.mono hib'.out ?_); rintro e w2 ⟨rfl, rfl⟩)
          go_wp2
          exact ⟨rfl, .inr ⟨hbad.out, rfl⟩, hb1'.out⟩
        · have hy := ibE_no c s hm
          have hgood := Lib.hid ((noneOf_succ hc).2 ⟨hno'.out, hm⟩)
          rw [hy] at hib
          have hib' := Lib.hid hib
          clear hc hm hib hge hy
          go_wp2_with (go_at_call 92; (with_reducible refine Calls.mono hib'.out ?_); rintro e w2 ⟨rfl, rfl⟩)
          go_wp2
          exact ⟨⟨j + 1, by omega, by go_num, hgood.out, trivial⟩, by simp [intOf]; omega⟩
      · obtain rfl : j = n := by omega
        go_wp2
        go_end0
        exact ⟨.inl ⟨(cleanB_iff s j).2 ⟨hs'.out, hno'.out⟩, rfl⟩, hb1'.out⟩
end Go.Proofs.YtlcfpnegpihicaaGreatDoor

namespace Go.Proofs.YtlcfpnegpihicaaGreatDoor
open Go.RowKit Go.Shelf

/-! ## A region whose last call is refused, in whatever order -/
def sayOps : Array Oper := #[{ dst := some 32, op := Op.fieldAddr 154 (Operand.tmp 5) 2, type := 0, pos := "frame.go:75", after := #[], guard := none },
  { dst := some 33, op := Op.load 151 (Operand.tmp 32), type := 151, pos := "frame.go:75", after := #[{ on := 0, ground := Ground.data }], guard := none },
  { dst := some 34, op := Op.move (Operand.tmp 3), type := 110, pos := "frame.go:75", after := #[], guard := none },
  { dst := some 35, op := Op.call { callee := Callee.value (Operand.tmp 33), args := #[Operand.tmp 34], argTypes := #[110] }, type := 9, pos := "frame.go:75", after := #[{ on := 1, ground := Ground.data }, { on := 2, ground := Ground.data }], guard := none },
  { dst := some 36, op := Op.fieldAddr 154 (Operand.tmp 5) 1, type := 0, pos := "frame.go:75", after := #[], guard := none },
  { dst := some 37, op := Op.load 3 (Operand.tmp 36), type := 3, pos := "frame.go:75", after := #[{ on := 4, ground := Ground.data }], guard := none },
  { dst := some 38, op := Op.call { callee := Callee.value (Operand.func 68), args := #[Operand.tmp 35, Operand.tmp 37], argTypes := #[9, 3] }, type := 0, pos := "frame.go:75", after := #[{ on := 3, ground := Ground.data }, { on := 5, ground := Ground.data }, { on := 3, ground := Ground.chain }], guard := none }]
set_option maxRecDepth 100000 in
set_option maxHeartbeats 4000000 in
theorem say_no {Q : Exit → Act → World → Prop} {x0 x1 x2 x4 x6 x7 x8 x9 x10 x11 x12 x13 x14 x15 x16 x17 x18 x19 x20 x21 x22 x23 x24 x25 x26 x27 x28 x29 x30 x31 x32 x33 x34 x35 x36 x37 x38 x39 x40 : Value} (id k s fn : Nat) (tx : Value) (n : Int) (w : World) (R : Ending → World → Prop)
    (hfn : ∀ args W, (callFunc fn args).run Tryz.prog W = .ok (.enter fn args) W)
    (h2 : w.drew.cell? ⟨s, 2, none⟩ = some (.func (.func fn) #[] #[])) (h1 : w.drew.cell? ⟨s, 1, none⟩ = some (.int .i64 n))
    (htx : Calls Tryz.prog fn #[.pointer (some ⟨k, 0, none⟩)] w.drew fun r w' => r = .returned tx ∧ w' = w.drew)
    (hcl : Calls Tryz.prog 68 #[tx, .int .i64 n] w.drew fun r w' => r = refuseE 2 ∧ R r w')
    (hQ : ∀ a W, a.defers = [] → R (refuseE 2) W → Q (.panic [{ v := refuseV 2, recovered := false }]) a W) :
    (Code.region id sayOps true).wp Tryz.prog Q { tmps := #[x0, x1, x2, .pointer (some ⟨k, 0, none⟩), x4, .pointer (some ⟨s, 0, none⟩), x6, x7, x8, x9, x10, x11, x12, x13, x14, x15, x16, x17, x18, x19, x20, x21, x22, x23, x24, x25, x26, x27, x28, x29, x30, x31, x32, x33, x34, x35, x36, x37, x38, x39, x40], defers := [] } w := by
  refine wp_region_any (by kernel_rfl) ?_
  change wpAny _ _ _ _ _ _ _ w.drew
  obtain ⟨w5, hw5⟩ : ∃ w5, w.drew = w5 := ⟨_, rfl⟩
  rw [hw5] at h1 h2 htx hcl ⊢
  clear hw5
  obtain ⟨I, hI⟩ : ∃ I : Array Bool → Act → World → Prop, I = (fun l a W => ∃ t32 t33 t34 t35 t36 t37 t38 : Value, a = { tmps := #[x0, x1, x2, .pointer (some ⟨k, 0, none⟩), x4, .pointer (some ⟨s, 0, none⟩), x6, x7, x8, x9, x10, x11, x12, x13, x14, x15, x16, x17, x18, x19, x20, x21, x22, x23, x24, x25, x26, x27, x28, x29, x30, x31, t32, t33, t34, t35, t36, t37, t38, x39, x40], defers := [] } ∧ W = w5 ∧ l.getD 6 false = false ∧
    (l.getD 0 false = true → t32 = .pointer (some ⟨s, 2, none⟩)) ∧ (l.getD 1 false = true → t33 = .func (.func fn) #[] #[]) ∧ (l.getD 2 false = true → t34 = .pointer (some ⟨k, 0, none⟩)) ∧
    (l.getD 3 false = true → t35 = tx) ∧ (l.getD 4 false = true → t36 = .pointer (some ⟨s, 1, none⟩)) ∧ (l.getD 5 false = true → t37 = .int .i64 n)) := ⟨_, rfl⟩
  refine wpAny_inv I ?_ ?_ _ _ _ _ rfl (by decide) ?_
  · intro l a W hs hI2 hr
    rw [hI] at hI2
    obtain ⟨_, _, _, _, _, _, _, _, _, h6, _⟩ := hI2
    have hd := all_done (by kernel_rfl) hs hr 6 (by decide)
    rw [hd] at h6; cases h6
  · intro l a W i hs hi hI2
    rw [hI] at hI2
    obtain ⟨hi1, o, ho, hdep⟩ := mem_ready.1 hi
    have hil : i < l.size := by
      rcases Nat.lt_or_ge i l.size with h | h
      · exact h
      · simp [Array.getD, show ¬ i < l.size by omega] at hi1
    have hil2 : i < 7 := by rw [hs] at hil; exact hil
    have hst := getD_set hil
    obtain ⟨t32, t33, t34, t35, t36, t37, t38, rfl, rfl, g6, g0, g1, g2, g3, g4, g5⟩ := hI2
    have hI' := Lib.hid hI
    clear hI
    rcases (by omega : i = 0 ∨ i = 1 ∨ i = 2 ∨ i = 3 ∨ i = 4 ∨ i = 5 ∨ i = 6) with rfl | rfl | rfl | rfl | rfl | rfl | rfl
    · clear hi ho hdep
      simp [wpOp, sayOps, Region.wanted, Oper.wp, execOp, go_sem]
      refine .inl ?_
      rw [hI'.out]
      refine ⟨_, _, _, _, _, _, _, rfl, rfl, ?_, ?_, ?_, ?_, ?_, ?_, ?_⟩ <;> (simp only [hst, Nat.reduceEqDiff, reduceIte]; first | assumption | (intro _; first | rfl | trivial))
    · clear hi
      simp [sayOps] at ho
      subst ho
      obtain rfl := g0 (hdep ⟨0, .data⟩ (by simp) rfl)
      simp [wpOp, sayOps, Region.wanted, Oper.wp, execOp, go_sem, h2]
      refine .inl ?_
      rw [hI'.out]
      refine ⟨_, _, _, _, _, _, _, rfl, rfl, ?_, ?_, ?_, ?_, ?_, ?_, ?_⟩ <;> (simp only [hst, Nat.reduceEqDiff, reduceIte]; first | assumption | (intro _; first | rfl | trivial))
    · clear hi ho hdep
      simp [wpOp, sayOps, Region.wanted, Oper.wp, execOp, go_sem]
      refine .inl ?_
      rw [hI'.out]
      refine ⟨_, _, _, _, _, _, _, rfl, rfl, ?_, ?_, ?_, ?_, ?_, ?_, ?_⟩ <;> (simp only [hst, Nat.reduceEqDiff, reduceIte]; first | assumption | (intro _; first | rfl | trivial))
    · clear hi
      simp [sayOps] at ho
      subst ho
      obtain rfl := g1 (hdep ⟨1, .data⟩ (by simp) rfl)
      obtain rfl := g2 (hdep ⟨2, .data⟩ (by simp) rfl)
      simp [wpOp, sayOps, Region.wanted, Oper.wp, execOp, go_sem, hfn]
      refine .inl (htx.mono ?_)
      rintro r w6 ⟨rfl, rfl⟩
      show I _ _ _
      rw [hI'.out]
      refine ⟨_, _, _, _, _, _, _, rfl, rfl, ?_, ?_, ?_, ?_, ?_, ?_, ?_⟩ <;> (simp only [hst, Nat.reduceEqDiff, reduceIte]; first | assumption | (intro _; first | rfl | trivial))
    · clear hi ho hdep
      simp [wpOp, sayOps, Region.wanted, Oper.wp, execOp, go_sem]
      refine .inl ?_
      rw [hI'.out]
      refine ⟨_, _, _, _, _, _, _, rfl, rfl, ?_, ?_, ?_, ?_, ?_, ?_, ?_⟩ <;> (simp only [hst, Nat.reduceEqDiff, reduceIte]; first | assumption | (intro _; first | rfl | trivial))
    · clear hi
      simp [sayOps] at ho
      subst ho
      obtain rfl := g4 (hdep ⟨4, .data⟩ (by simp) rfl)
      simp [wpOp, sayOps, Region.wanted, Oper.wp, execOp, go_sem, h1]
      refine .inl ?_
      rw [hI'.out]
      refine ⟨_, _, _, _, _, _, _, rfl, rfl, ?_, ?_, ?_, ?_, ?_, ?_, ?_⟩ <;> (simp only [hst, Nat.reduceEqDiff, reduceIte]; first | assumption | (intro _; first | rfl | trivial))
    · clear hi
      simp [sayOps] at ho
      subst ho
      obtain rfl := g3 (hdep ⟨3, .data⟩ (by simp) rfl)
      obtain rfl := g5 (hdep ⟨5, .data⟩ (by simp) rfl)
      have hen := enters_of Tryz.func68 (by kernel_rfl) rfl
      simp [wpOp, sayOps, Region.wanted, Oper.wp, go_sem]
      refine .inl (hcl.mono ?_)
      rintro r w7 ⟨rfl, hR⟩
      exact hQ _ _ rfl hR
  · rw [hI]
    exact ⟨_, _, _, _, _, _, _, rfl, rfl, by simp [Array.getD], by simp [Array.getD], by simp [Array.getD], by simp [Array.getD], by simp [Array.getD], by simp [Array.getD], by simp [Array.getD]⟩
end Go.Proofs.YtlcfpnegpihicaaGreatDoor

namespace Go.Proofs.YtlcfpnegpihicaaGreatDoor
open Go.RowKit Go.Shelf
attribute [local go_sem] Oper.semAt_some

/-! ## sayings, framed -/
def sayCells : Array Value := #[.int .i64 5, .int .i64 3, .func (.func 86) #[] #[], .func (.func 87) #[] #[],
  .int .i64 4, .int .i64 2, .func (.func 88) #[] #[], .func (.func 87) #[] #[],
  .int .i64 3, .int .i64 1, .func (.func 89) #[] #[], .func (.func 90) #[] #[]]
theorem sayings_any (w : World) : Calls Tryz.prog 67 #[] w fun e w' => e = .returned (.slice (some ⟨w.heap.size, 0, none⟩) 3 3) ∧ w' = w.alloc (.cells sayCells 154) := by
  go_enter Tryz.func67, Tryz.ntmps67
  go_wp2
  go_ret
  exact ⟨rfl, rfl⟩
def evCells (e : Ev) : Array Value := #[.string ⟨e.1.toArray⟩, .string ⟨e.2.1.toArray⟩, .string ⟨e.2.2.toArray⟩]
def evV (e : Ev) : Value := .agg (evCells e)
def frCells (e : Ev) (b : Value) : Array Value := #[.string ⟨e.1.toArray⟩, .string ⟨e.2.1.toArray⟩, .string ⟨e.2.2.toArray⟩, b]
theorem text1_any (k : Nat) (e : Ev) (b : Value) (w : World) (hk : Has w k 147 (frCells e b)) : Calls Tryz.prog 86 #[.pointer (some ⟨k, 0, none⟩)] w fun r w' => r = .returned (.string ⟨e.1.toArray⟩) ∧ w' = w := by
  have c0 := hk.cell 0
  unfold frCells at c0
  go_enter Tryz.func86, Tryz.ntmps86
  go_wp2
  go_ret
  exact ⟨rfl, rfl⟩
theorem text2_any (k : Nat) (e : Ev) (b : Value) (w : World) (hk : Has w k 147 (frCells e b)) : Calls Tryz.prog 88 #[.pointer (some ⟨k, 0, none⟩)] w fun r w' => r = .returned (.string ⟨e.2.1.toArray⟩) ∧ w' = w := by
  have c0 := hk.cell 1
  unfold frCells at c0
  go_enter Tryz.func88, Tryz.ntmps88
  go_wp2
  go_ret
  exact ⟨rfl, rfl⟩
theorem text3_any (k : Nat) (e : Ev) (b : Value) (w : World) (hk : Has w k 147 (frCells e b)) : Calls Tryz.prog 89 #[.pointer (some ⟨k, 0, none⟩)] w fun r w' => r = .returned (.string ⟨e.2.2.toArray⟩) ∧ w' = w := by
  have c0 := hk.cell 2
  unfold frCells at c0
  go_enter Tryz.func89, Tryz.ntmps89
  go_wp2
  go_ret
  exact ⟨rfl, rfl⟩
def FramedR (e : Ev) (w : World) (r : Ending) (w' : World) : Prop :=
  ((rightE e = true ∧ r = .returned (.pointer (some ⟨w.heap.size + 1, 0, none⟩)) ∧ Has w' (w.heap.size + 1) 147 (frCells e (.slice none 0 0))) ∨ (rightE e = false ∧ r = refuseE 2)) ∧ Below w.heap.size w w'
structure FrS (w : World) (e : Ev) (g j : Nat) (wr : World) : Prop where
  le : j ≤ 3
  c1 : 0 < j → cleanB e.1 3 = true
  c2 : 1 < j → cleanB e.2.1 2 = true
  c3 : 2 < j → cleanB e.2.2 1 = true
  fr : Has wr (w.heap.size + 1) 147 (frCells e (.slice none 0 0))
  sy : Has wr g 154 sayCells
  be : Below w.heap.size w wr
theorem fits_sum (e : Ev) : totalL [e.1, e.2.1, e.2.2] = e.1.length + e.2.1.length + e.2.2.length := by simp [totalL]; omega
set_option maxRecDepth 100000 in
set_option maxHeartbeats 4000000 in
theorem framed_any (e : Ev) (w : World) (hl : e.1.length ≤ 1099511627776 ∧ e.2.1.length ≤ 1099511627776 ∧ e.2.2.length ≤ 1099511627776) (hT : TabU w) (hS : SgT w) :
    Calls Tryz.prog 45 #[evV e] w (FramedR e w) := by
  obtain ⟨l1, l2, l3⟩ := hl
  have hT' := Lib.hid hT
  have hS' := Lib.hid hS
  have hfs := fits_sum e
  have hmf := Lib.hid (fun (k c : Nat) (W : World) (hk : Has W k 9 #[.string ⟨e.1.toArray⟩, .string ⟨e.2.1.toArray⟩, .string ⟨e.2.2.toArray⟩]) => mustFit_any k [e.1, e.2.1, e.2.2] 3 c _ W rfl (by omega) hk (fun j y hj => by
    match j, hj with
    | 0, h => obtain rfl : e.1 = y := by simpa using h
              exact ⟨rfl, l1⟩
    | 1, h => obtain rfl : e.2.1 = y := by simpa using h
              exact ⟨rfl, l2⟩
    | 2, h => obtain rfl : e.2.2 = y := by simpa using h
              exact ⟨rfl, l3⟩
    | j + 3, h => simp at h))
  rw [hfs] at hmf
  have hfr := Lib.hid (show Has ((w.alloc (.cells (evCells e) 37)).alloc (.cells (frCells e (.slice none 0 0)) 147)) (w.heap.size + 1) 147 (frCells e (.slice none 0 0)) from by
    have := Has.new (w.alloc (.cells (evCells e) 37)) 147 (frCells e (.slice none 0 0))
    simpa using this)
  have hb2 := Lib.hid (show Below w.heap.size w ((w.alloc (.cells (evCells e) 37)).alloc (.cells (frCells e (.slice none 0 0)) 147)) from ((Below.refl _ _).alloc (Nat.le_refl _) _).alloc (by simp) _)
  clear hT hS hfs
  unfold evV evCells
  unfold FramedR
  go_enter Tryz.func45, Tryz.ntmps45
  obtain ⟨w2, hw2⟩ : ∃ w2, (w.alloc (.cells (evCells e) 37)).alloc (.cells (frCells e (.slice none 0 0)) 147) = w2 := ⟨_, rfl⟩
  have hz2 : w2.heap.size = w.heap.size + 1 + 1 := by rw [← hw2]; simp
  rw [hw2] at hfr hb2
  have hall := Lib.hid (fun W (hb : Below w2.heap.size w2 W) => show W.cell? ⟨w.heap.size + 1, 0, none⟩ = some (.string ⟨e.1.toArray⟩) ∧ W.cell? ⟨w.heap.size + 1, 1, none⟩ = some (.string ⟨e.2.1.toArray⟩) ∧ W.cell? ⟨w.heap.size + 1, 2, none⟩ = some (.string ⟨e.2.2.toArray⟩) from
    ⟨(hfr.out.below hb hfr.out.lt).cell 0, (hfr.out.below hb hfr.out.lt).cell 1, (hfr.out.below hb hfr.out.lt).cell 2⟩)
  have hnw := Lib.hid (show Has (w2.alloc (.cells #[.string ⟨e.1.toArray⟩, .string ⟨e.2.1.toArray⟩, .string ⟨e.2.2.toArray⟩] 9)).drew (w.heap.size + 1 + 1) 9 #[.string ⟨e.1.toArray⟩, .string ⟨e.2.1.toArray⟩, .string ⟨e.2.2.toArray⟩] from by
    have := Has.new w2 9 #[.string ⟨e.1.toArray⟩, .string ⟨e.2.1.toArray⟩, .string ⟨e.2.2.toArray⟩]
    rw [hz2] at this
    exact this)
  by_cases hfit : e.1.length + e.2.1.length + e.2.2.length ≤ 65536
  · have hmfY := Lib.hid (fun k c W hk => (hmf.out k c W hk).mono (R' := fun r w' => r = .returned (.tuple #[]) ∧ w' = W) (fun r w' h => ⟨by rcases h.1 with h | h; exact h.2; exact absurd h.1 (by omega), h.2⟩))
    clear hmf
    go_upto_region 2 with fail
    rw [show (w.alloc (.cells #[.string ⟨e.1.toArray⟩, .string ⟨e.2.1.toArray⟩, .string ⟨e.2.2.toArray⟩] 37)).alloc (.cells #[.string ⟨e.1.toArray⟩, .string ⟨e.2.1.toArray⟩, .string ⟨e.2.2.toArray⟩, .slice none 0 0] 147) = w2 from hw2]
    clear hw2
    go_region_held3 (fun W => W.cell? ⟨w.heap.size + 1, 0, none⟩ = some (.string ⟨e.1.toArray⟩) ∧ W.cell? ⟨w.heap.size + 1, 1, none⟩ = some (.string ⟨e.2.1.toArray⟩) ∧ W.cell? ⟨w.heap.size + 1, 2, none⟩ = some (.string ⟨e.2.2.toArray⟩))
      (first
      | (with_reducible exact hall.out _ (Below.refl _ _).drew)
      | (with_reducible exact hall.out _ ((Below.refl _ _).alloc (Nat.le_refl _) _).drew)
      | fail)
      (first
      | (go_at_call 66; (with_reducible refine Calls.mono (hmfY.out _ _ _ hnw.out) ?_); rintro r w3 ⟨rfl, rfl⟩)
      | fail)
    obtain ⟨w3, hw3⟩ : ∃ w3, (w2.alloc (.cells #[.string ⟨e.1.toArray⟩, .string ⟨e.2.1.toArray⟩, .string ⟨e.2.2.toArray⟩] 9)).drew = w3 := ⟨_, rfl⟩
    have hb23 : Below w2.heap.size w2 w3 := by rw [← hw3]; exact ((Below.refl _ _).alloc (Nat.le_refl _) _).drew
    rw [hw3]
    clear hw3 hnw hall hz2 hmfY
    have hb3 := Lib.hid (hb2.out.trans (hb23.mono hb2.out.size))
    have hfr3 := Lib.hid (hfr.out.below hb23 hfr.out.lt)
    clear hb23 hfr hb2
    have hb4 := Lib.hid (hb3.out.alloc hb3.out.size (.cells sayCells 154))
    have hfr4 := Lib.hid (hfr3.out.alloc (.cells sayCells 154))
    have hsy4 := Lib.hid (Has.new w3 154 sayCells)
    go_wp2_with (go_at_call 67; (with_reducible refine Calls.mono (sayings_any _) ?_); rintro r w4 ⟨rfl, rfl⟩)
    obtain ⟨g, hg⟩ : ∃ g, w3.heap.size = g := ⟨_, rfl⟩
    obtain ⟨w4, hw4⟩ : ∃ w4, w3.alloc (.cells sayCells 154) = w4 := ⟨_, rfl⟩
    rw [hg] at hsy4
    rw [hw4] at hb4 hfr4 hsy4
    rw [hw4, hg]
    have hg2 : w.heap.size + 1 < g := by rw [← hg]; exact hfr3.out.lt
    clear hw4 hg hb3 hfr3
    go_loopw [28] (fun x wr => ∃ j : Nat, x = .int .i64 (j : Int) ∧ FrS w e g j wr) (fun x _ => 3 - (intOf x).toNat)
    case atStart => exact ⟨0, rfl, by omega, fun h => by omega, fun h => by omega, fun h => by omega, hfr4.out, hsy4.out, hb4.out⟩
    case round =>
      obtain ⟨j, rfl, hF⟩ := hrel
      have hj := hF.le
      rcases (show j = 3 ∨ j = 0 ∨ j = 1 ∨ j = 2 by omega) with rfl | rfl | rfl | rfl
      · have hF' := Lib.hid hF
        clear hF
        go_wp2
        go_ret
        refine ⟨.inl ⟨?_, rfl, hF'.out.fr⟩, hF'.out.be⟩
        unfold rightE fitsE
        rw [decide_eq_true hfit, hF'.out.c1 (by omega), hF'.out.c2 (by omega), hF'.out.c3 (by omega)]
        rfl
      · have s0 := hF.sy.cell 0
        have s1 := hF.sy.cell 1
        have s2 := hF.sy.cell 2
        have s3 := hF.sy.cell 3
        unfold sayCells at s0 s1 s2 s3
        have hF' := Lib.hid hF
        have hnew := Has.new wr 154 #[.int .i64 5, .int .i64 3, .func (.func 86) #[] #[], .func (.func 87) #[] #[]]
        have hb5 : Below wr.heap.size wr (wr.alloc (.cells #[.int .i64 5, .int .i64 3, .func (.func 86) #[] #[], .func (.func 87) #[] #[]] 154)) := (Below.refl _ _).alloc (Nat.le_refl _) _
        obtain ⟨w5, hw5⟩ : ∃ w5, wr.alloc (.cells #[.int .i64 5, .int .i64 3, .func (.func 86) #[] #[], .func (.func 87) #[] #[]] 154) = w5 := ⟨_, rfl⟩
        rw [hw5] at hnew hb5
        have hall5 := Lib.hid (fun W (hb : Below w5.heap.size w5 W) => show W.cell? ⟨wr.heap.size, 1, none⟩ = some (.int .i64 3) ∧ W.cell? ⟨wr.heap.size, 2, none⟩ = some (.func (.func 86) #[] #[]) from ⟨(hnew.below hb hnew.lt).cell 1, (hnew.below hb hnew.lt).cell 2⟩)
        have htx := Lib.hid (fun W (hb : Below w5.heap.size w5 W) => text1_any (w.heap.size + 1) e (.slice none 0 0) W ((hF.fr.below hb5 hF.fr.lt).below hb (Nat.lt_of_lt_of_le hF.fr.lt hb5.size)))
        have hb05 := Lib.hid (hF.be.trans (hb5.mono hF.be.size))
        have hcl0 := fun W (hb : Below w5.heap.size w5 W) => clean_any e.1 3 W (by omega) (by omega) (hT'.out.below (hb05.out.trans (hb.mono hb05.out.size))) (hS'.out.below (hb05.out.trans (hb.mono hb05.out.size)))
        have hb5' := Lib.hid hb5
        clear hb5 hnew hF
        by_cases hcb : cleanB e.1 3 = true
        · have hcl := Lib.hid (fun W (hb : Below w5.heap.size w5 W) => (hcl0 W hb).mono (R' := fun r w' => r = .returned (.tuple #[]) ∧ Below W.heap.size W w') (fun r w' h => ⟨by rcases h.1 with h | h; exact h.2; (have := h.1; rw [hcb] at this; cases this), h.2⟩))
          have hcb' := Lib.hid hcb
          clear hcl0 hcb
          go_upto_region 6 with fail
          try rw [hw5]
          clear hw5
          go_region_held3 (fun W => W.cell? ⟨wr.heap.size, 1, none⟩ = some (.int .i64 3) ∧ W.cell? ⟨wr.heap.size, 2, none⟩ = some (.func (.func 86) #[] #[]))
            (first
            | (with_reducible exact hall5.out _ (Below.refl _ _).drew)
            | (with_reducible exact hall5.out _ hd7.out)
            | fail)
            (first
            | (go_at_call 86; (with_reducible refine Calls.mono (htx.out _ (Below.refl _ _).drew) ?_); rintro r w6 ⟨rfl, rfl⟩)
            | (go_at_call 68; (with_reducible refine Calls.mono (hcl.out _ (Below.refl _ _).drew) ?_); rintro r w7 ⟨rfl, hb7⟩; have hd7 := Lib.hid ((Below.refl w5.heap.size w5).drew.trans (hb7.mono (Nat.le_refl _))); clear hb7)
            | fail)
          go_wp2
          have hbr := hb5'.out.trans (hd7.out.mono hb5'.out.size)
          have hcb := hcb'.out
          have hF := hF'.out
          exact ⟨⟨1, by go_num, by omega, fun _ => hcb, fun h => by omega, fun h => by omega, hF.fr.below hbr hF.fr.lt, hF.sy.below hbr hF.sy.lt, hF.be.trans (hbr.mono hF.be.size)⟩, by simp [intOf]⟩
        · have hcb : cleanB e.1 3 = false := by simpa using hcb
          have hcl := Lib.hid (fun W (hb : Below w5.heap.size w5 W) => (hcl0 W hb).mono (R' := fun r w' => r = refuseE 2 ∧ Below W.heap.size W w') (fun r w' h => ⟨by rcases h.1 with h | h; (have := h.1; rw [hcb] at this; cases this); exact h.2, h.2⟩))
          have hbad := Lib.hid (show rightE e = false from by unfold rightE; rw [hcb]; simp)
          clear hcl0 hcb
          go_upto_region 6 with fail
          try rw [hw5]
          clear hw5
          obtain ⟨i1, i2⟩ := hall5.out _ (Below.refl _ _).drew
          refine say_no 6 (w.heap.size + 1) wr.heap.size 86 (.string ⟨(e.1).toArray⟩) 3 w5 (fun r w' => FramedR e w r w') (enters_of Tryz.func86 (by kernel_rfl) rfl) i2 i1 (htx.out _ (Below.refl _ _).drew) ((hcl.out _ (Below.refl _ _).drew).mono ?_) ?_
          · rintro r w7 ⟨rfl, hb7⟩
            exact ⟨rfl, .inr ⟨hbad.out, rfl⟩, hF'.out.be.trans ((hb5'.out.trans (((Below.refl w5.heap.size w5).drew.trans (hb7.mono (Nat.le_refl _))).mono hb5'.out.size)).mono hF'.out.be.size)⟩
          · intro a W ha hR
            exact ⟨ha, hR⟩
      · have s0 := hF.sy.cell 4
        have s1 := hF.sy.cell 5
        have s2 := hF.sy.cell 6
        have s3 := hF.sy.cell 7
        unfold sayCells at s0 s1 s2 s3
        have hF' := Lib.hid hF
        have hnew := Has.new wr 154 #[.int .i64 4, .int .i64 2, .func (.func 88) #[] #[], .func (.func 87) #[] #[]]
        have hb5 : Below wr.heap.size wr (wr.alloc (.cells #[.int .i64 4, .int .i64 2, .func (.func 88) #[] #[], .func (.func 87) #[] #[]] 154)) := (Below.refl _ _).alloc (Nat.le_refl _) _
        obtain ⟨w5, hw5⟩ : ∃ w5, wr.alloc (.cells #[.int .i64 4, .int .i64 2, .func (.func 88) #[] #[], .func (.func 87) #[] #[]] 154) = w5 := ⟨_, rfl⟩
        rw [hw5] at hnew hb5
        have hall5 := Lib.hid (fun W (hb : Below w5.heap.size w5 W) => show W.cell? ⟨wr.heap.size, 1, none⟩ = some (.int .i64 2) ∧ W.cell? ⟨wr.heap.size, 2, none⟩ = some (.func (.func 88) #[] #[]) from ⟨(hnew.below hb hnew.lt).cell 1, (hnew.below hb hnew.lt).cell 2⟩)
        have htx := Lib.hid (fun W (hb : Below w5.heap.size w5 W) => text2_any (w.heap.size + 1) e (.slice none 0 0) W ((hF.fr.below hb5 hF.fr.lt).below hb (Nat.lt_of_lt_of_le hF.fr.lt hb5.size)))
        have hb05 := Lib.hid (hF.be.trans (hb5.mono hF.be.size))
        have hcl0 := fun W (hb : Below w5.heap.size w5 W) => clean_any e.2.1 2 W (by omega) (by omega) (hT'.out.below (hb05.out.trans (hb.mono hb05.out.size))) (hS'.out.below (hb05.out.trans (hb.mono hb05.out.size)))
        have hb5' := Lib.hid hb5
        clear hb5 hnew hF
        by_cases hcb : cleanB e.2.1 2 = true
        · have hcl := Lib.hid (fun W (hb : Below w5.heap.size w5 W) => (hcl0 W hb).mono (R' := fun r w' => r = .returned (.tuple #[]) ∧ Below W.heap.size W w') (fun r w' h => ⟨by rcases h.1 with h | h; exact h.2; (have := h.1; rw [hcb] at this; cases this), h.2⟩))
          have hcb' := Lib.hid hcb
          clear hcl0 hcb
          go_upto_region 6 with fail
          try rw [hw5]
          clear hw5
          go_region_held3 (fun W => W.cell? ⟨wr.heap.size, 1, none⟩ = some (.int .i64 2) ∧ W.cell? ⟨wr.heap.size, 2, none⟩ = some (.func (.func 88) #[] #[]))
            (first
            | (with_reducible exact hall5.out _ (Below.refl _ _).drew)
            | (with_reducible exact hall5.out _ hd7.out)
            | fail)
            (first
            | (go_at_call 88; (with_reducible refine Calls.mono (htx.out _ (Below.refl _ _).drew) ?_); rintro r w6 ⟨rfl, rfl⟩)
            | (go_at_call 68; (with_reducible refine Calls.mono (hcl.out _ (Below.refl _ _).drew) ?_); rintro r w7 ⟨rfl, hb7⟩; have hd7 := Lib.hid ((Below.refl w5.heap.size w5).drew.trans (hb7.mono (Nat.le_refl _))); clear hb7)
            | fail)
          go_wp2
          have hbr := hb5'.out.trans (hd7.out.mono hb5'.out.size)
          have hcb := hcb'.out
          have hF := hF'.out
          exact ⟨⟨2, by go_num, by omega, fun h => hF.c1 (by omega), fun _ => hcb, fun h => by omega, hF.fr.below hbr hF.fr.lt, hF.sy.below hbr hF.sy.lt, hF.be.trans (hbr.mono hF.be.size)⟩, by simp [intOf]⟩
        · have hcb : cleanB e.2.1 2 = false := by simpa using hcb
          have hcl := Lib.hid (fun W (hb : Below w5.heap.size w5 W) => (hcl0 W hb).mono (R' := fun r w' => r = refuseE 2 ∧ Below W.heap.size W w') (fun r w' h => ⟨by rcases h.1 with h | h; (have := h.1; rw [hcb] at this; cases this); exact h.2, h.2⟩))
          have hbad := Lib.hid (show rightE e = false from by unfold rightE; rw [hcb]; simp)
          clear hcl0 hcb
          go_upto_region 6 with fail
          try rw [hw5]
          clear hw5
          obtain ⟨i1, i2⟩ := hall5.out _ (Below.refl _ _).drew
          refine say_no 6 (w.heap.size + 1) wr.heap.size 88 (.string ⟨(e.2.1).toArray⟩) 2 w5 (fun r w' => FramedR e w r w') (enters_of Tryz.func88 (by kernel_rfl) rfl) i2 i1 (htx.out _ (Below.refl _ _).drew) ((hcl.out _ (Below.refl _ _).drew).mono ?_) ?_
          · rintro r w7 ⟨rfl, hb7⟩
            exact ⟨rfl, .inr ⟨hbad.out, rfl⟩, hF'.out.be.trans ((hb5'.out.trans (((Below.refl w5.heap.size w5).drew.trans (hb7.mono (Nat.le_refl _))).mono hb5'.out.size)).mono hF'.out.be.size)⟩
          · intro a W ha hR
            exact ⟨ha, hR⟩
      · have s0 := hF.sy.cell 8
        have s1 := hF.sy.cell 9
        have s2 := hF.sy.cell 10
        have s3 := hF.sy.cell 11
        unfold sayCells at s0 s1 s2 s3
        have hF' := Lib.hid hF
        have hnew := Has.new wr 154 #[.int .i64 3, .int .i64 1, .func (.func 89) #[] #[], .func (.func 90) #[] #[]]
        have hb5 : Below wr.heap.size wr (wr.alloc (.cells #[.int .i64 3, .int .i64 1, .func (.func 89) #[] #[], .func (.func 90) #[] #[]] 154)) := (Below.refl _ _).alloc (Nat.le_refl _) _
        obtain ⟨w5, hw5⟩ : ∃ w5, wr.alloc (.cells #[.int .i64 3, .int .i64 1, .func (.func 89) #[] #[], .func (.func 90) #[] #[]] 154) = w5 := ⟨_, rfl⟩
        rw [hw5] at hnew hb5
        have hall5 := Lib.hid (fun W (hb : Below w5.heap.size w5 W) => show W.cell? ⟨wr.heap.size, 1, none⟩ = some (.int .i64 1) ∧ W.cell? ⟨wr.heap.size, 2, none⟩ = some (.func (.func 89) #[] #[]) from ⟨(hnew.below hb hnew.lt).cell 1, (hnew.below hb hnew.lt).cell 2⟩)
        have htx := Lib.hid (fun W (hb : Below w5.heap.size w5 W) => text3_any (w.heap.size + 1) e (.slice none 0 0) W ((hF.fr.below hb5 hF.fr.lt).below hb (Nat.lt_of_lt_of_le hF.fr.lt hb5.size)))
        have hb05 := Lib.hid (hF.be.trans (hb5.mono hF.be.size))
        have hcl0 := fun W (hb : Below w5.heap.size w5 W) => clean_any e.2.2 1 W (by omega) (by omega) (hT'.out.below (hb05.out.trans (hb.mono hb05.out.size))) (hS'.out.below (hb05.out.trans (hb.mono hb05.out.size)))
        have hb5' := Lib.hid hb5
        clear hb5 hnew hF
        by_cases hcb : cleanB e.2.2 1 = true
        · have hcl := Lib.hid (fun W (hb : Below w5.heap.size w5 W) => (hcl0 W hb).mono (R' := fun r w' => r = .returned (.tuple #[]) ∧ Below W.heap.size W w') (fun r w' h => ⟨by rcases h.1 with h | h; exact h.2; (have := h.1; rw [hcb] at this; cases this), h.2⟩))
          have hcb' := Lib.hid hcb
          clear hcl0 hcb
          go_upto_region 6 with fail
          try rw [hw5]
          clear hw5
          go_region_held3 (fun W => W.cell? ⟨wr.heap.size, 1, none⟩ = some (.int .i64 1) ∧ W.cell? ⟨wr.heap.size, 2, none⟩ = some (.func (.func 89) #[] #[]))
            (first
            | (with_reducible exact hall5.out _ (Below.refl _ _).drew)
            | (with_reducible exact hall5.out _ hd7.out)
            | fail)
            (first
            | (go_at_call 89; (with_reducible refine Calls.mono (htx.out _ (Below.refl _ _).drew) ?_); rintro r w6 ⟨rfl, rfl⟩)
            | (go_at_call 68; (with_reducible refine Calls.mono (hcl.out _ (Below.refl _ _).drew) ?_); rintro r w7 ⟨rfl, hb7⟩; have hd7 := Lib.hid ((Below.refl w5.heap.size w5).drew.trans (hb7.mono (Nat.le_refl _))); clear hb7)
            | fail)
          go_wp2
          have hbr := hb5'.out.trans (hd7.out.mono hb5'.out.size)
          have hcb := hcb'.out
          have hF := hF'.out
          exact ⟨⟨3, by go_num, by omega, fun h => hF.c1 (by omega), fun h => hF.c2 (by omega), fun _ => hcb, hF.fr.below hbr hF.fr.lt, hF.sy.below hbr hF.sy.lt, hF.be.trans (hbr.mono hF.be.size)⟩, by simp [intOf]⟩
        · have hcb : cleanB e.2.2 1 = false := by simpa using hcb
          have hcl := Lib.hid (fun W (hb : Below w5.heap.size w5 W) => (hcl0 W hb).mono (R' := fun r w' => r = refuseE 2 ∧ Below W.heap.size W w') (fun r w' h => ⟨by rcases h.1 with h | h; (have := h.1; rw [hcb] at this; cases this); exact h.2, h.2⟩))
          have hbad := Lib.hid (show rightE e = false from by unfold rightE; rw [hcb]; simp)
          clear hcl0 hcb
          go_upto_region 6 with fail
          try rw [hw5]
          clear hw5
          obtain ⟨i1, i2⟩ := hall5.out _ (Below.refl _ _).drew
          refine say_no 6 (w.heap.size + 1) wr.heap.size 89 (.string ⟨(e.2.2).toArray⟩) 1 w5 (fun r w' => FramedR e w r w') (enters_of Tryz.func89 (by kernel_rfl) rfl) i2 i1 (htx.out _ (Below.refl _ _).drew) ((hcl.out _ (Below.refl _ _).drew).mono ?_) ?_
          · rintro r w7 ⟨rfl, hb7⟩
            exact ⟨rfl, .inr ⟨hbad.out, rfl⟩, hF'.out.be.trans ((hb5'.out.trans (((Below.refl w5.heap.size w5).drew.trans (hb7.mono (Nat.le_refl _))).mono hb5'.out.size)).mono hF'.out.be.size)⟩
          · intro a W ha hR
            exact ⟨ha, hR⟩
  · have hmfN := Lib.hid (fun k c W hk => (hmf.out k c W hk).mono (R' := fun r w' => r = .panicked [{ v := refuseV 2, recovered := false }] ∧ w' = W) (fun r w' h => ⟨by rcases h.1 with h | h; exact absurd h.1 (by omega); exact h.2, h.2⟩))
    clear hmf
    go_upto_region 2 with fail
    rw [show (w.alloc (.cells #[.string ⟨e.1.toArray⟩, .string ⟨e.2.1.toArray⟩, .string ⟨e.2.2.toArray⟩] 37)).alloc (.cells #[.string ⟨e.1.toArray⟩, .string ⟨e.2.1.toArray⟩, .string ⟨e.2.2.toArray⟩, .slice none 0 0] 147) = w2 from hw2]
    clear hw2
    obtain ⟨i0, i1, i2⟩ := hall.out _ (Below.refl _ _).drew
    have hno := Lib.hid (show rightE e = false from by unfold rightE fitsE; rw [decide_eq_false hfit]; rfl)
    have hb9 := Lib.hid (hb2.out.trans (((Below.refl w2.heap.size w2).alloc (Nat.le_refl _) (.cells #[.string ⟨e.1.toArray⟩, .string ⟨e.2.1.toArray⟩, .string ⟨e.2.2.toArray⟩] 9)).drew.mono hb2.out.size))
    refine wp_region_still_tail 15 (by kernel_rfl) (by kernel_rfl) ?_
    simp only [List.take_succ_cons, List.take_zero, List.drop_succ_cons, List.drop_zero]
    change wpStill _ _ w2.drew _ _ _
    repeat still_step
    try refine wpStill_nil ?_
    go_wp2_with (go_at_call 66; (with_reducible refine Calls.mono (hmfN.out _ _ _ hnw.out) ?_); rintro r w3 ⟨rfl, rfl⟩)
    exact ⟨rfl, .inr ⟨hno.out, rfl⟩, hb9.out⟩
end Go.Proofs.YtlcfpnegpihicaaGreatDoor

namespace Go.Proofs.YtlcfpnegpihicaaGreatDoor
open Go.RowKit Go.Shelf
attribute [local go_sem] Oper.semAt_some

/-! ## Check, alone -/
structure EvT (w : World) : Prop where
  tab : TabU w
  sg : SgT w
  nm : NamesT w
  mx : MaxT w
theorem EvT.below {w w' : World} (h : EvT w) (hb : Below w.heap.size w w') : EvT w' := ⟨h.tab.below hb, h.sg.below hb, h.nm.below hb, h.mx.below hb⟩
def refuseD (n : Int) : List PanicEntry := [{ v := refuseV n, recovered := false }]
set_option maxRecDepth 100000 in
set_option maxHeartbeats 2000000 in
theorem catch2_idle (p : Addr) (w : World) :
    CallsD Tryz.prog 65 #[.pointer (some p)] .returning w fun e u' w' => e = .returned (.tuple #[]) ∧ u' = .returning ∧ w' = w := by
  refine callsD_of_wpS Tryz.func65 rfl fun c₀ cs hu => ?_
  apply wpS_seq
  apply wpS_region
  simp [wpOpsS, go_sem, recoverD, hu, Tryz.ntmps65, Exit.thenS]
  refine wpS_of_wp ?_
  go_wp2
  cases c₀
  simp_all [bodyPostS, results, Tryz.results65]
set_option maxRecDepth 100000 in
set_option maxHeartbeats 2000000 in
theorem catch2_no (b : Nat) (x n : Int) (w : World) (hh : Has w b 25 #[.int .i64 x]) :
    CallsD Tryz.prog 65 #[.pointer (some ⟨b, 0, none⟩)] (.panicking (refuseD n)) w fun e u' w' =>
      e = .returned (.tuple #[]) ∧ u' = .panicking [{ v := refuseV n, recovered := true }] ∧ w' = (w.setCell ⟨b, 0, none⟩ (.int .i64 n)).alloc (.cells #[.int .i64 n] 144) := by
  refine callsD_of_wpS Tryz.func65 rfl fun c₀ cs hu => ?_
  apply wpS_seq
  apply wpS_region
  simp [wpOpsS, go_sem, recoverD, hu, Tryz.ntmps65, Exit.thenS, refuseD]
  have c1 := (hh.alloc (.cells #[.int .i64 n] 144)).cell 0
  have f1 := (hh.alloc (.cells #[.int .i64 n] 144)).free 0
  have hlt := hh.lt
  clear hh
  have hne : ∀ W : World, (binOp BinOp.eql 20 (refuseV n) .nilIface).run Tryz.prog W = .ok (.bool false) W := fun _ => by kernel_rfl
  have hta : ∀ W : World, (Instr.typeAssert (refuseV n) 20 144 true).run Tryz.prog W = .ok (.tuple #[.agg #[.int .i64 n], .bool true]) W := fun _ => by kernel_rfl
  unfold refuseV at hne hta ⊢
  refine wpS_of_wp ?_
  try simp only [Array.replicate_succ, Array.replicate_zero, List.push_toArray, List.append_toArray, List.nil_append, List.cons_append, List.setIfInBounds_toArray, List.set_cons_succ, List.set_cons_zero]
  go_wp2
  cases c₀
  simp_all [bodyPostS, results, Tryz.results65]
set_option maxRecDepth 100000 in
set_option maxHeartbeats 2000000 in
theorem face2_yes (OF : Nat) (e : Ev) (w : World) (V : Value → World → Prop) (hen : ∀ args W, (callFunc OF args).run Tryz.prog W = .ok (.enter OF args) W) (hset : ∀ v X u, V v X → V v (X.setCell ⟨w.heap.size + 1, 0, none⟩ u))
    (h : Calls Tryz.prog OF #[evV e] ((w.alloc (.cells (evCells e) 37)).alloc (.cells #[.int .i64 0] 25)) fun r w' => ∃ v, r = .returned v ∧ V v w' ∧ Below ((w.alloc (.cells (evCells e) 37)).alloc (.cells #[.int .i64 0] 25)).heap.size ((w.alloc (.cells (evCells e) 37)).alloc (.cells #[.int .i64 0] 25)) w') :
    Calls Tryz.prog 44 #[.func (.func OF) #[] #[], evV e] w fun r w' => ∃ v, r = .returned (.tuple #[v, .int .i64 0]) ∧ V v w' ∧ Below w.heap.size w w' := by
  have hmf : ∀ (fn : Fn) (first cap : Array Value) (w : World), (Instr.makeFunc fn first cap).run Tryz.prog w = .ok (.func fn first cap) w := fun _ _ _ _ => rfl
  have hno := Lib.hid (show Has ((w.alloc (.cells (evCells e) 37)).alloc (.cells #[.int .i64 0] 25)) (w.heap.size + 1) 25 #[.int .i64 0] from (by have := Has.new (w.alloc (.cells (evCells e) 37)) 25 #[.int .i64 0]; rw [World.size_alloc] at this; exact this))
  have hb1 := Lib.hid (show Below w.heap.size w ((w.alloc (.cells (evCells e) 37)).alloc (.cells #[.int .i64 0] 25)) from ((Below.refl _ _).alloc (Nat.le_refl _) _).alloc (by simp) _)
  have h' := Lib.hid h
  have hBle : Hid (w.heap.size ≤ w.heap.size + 1) := Lib.hid (by omega)
  clear h
  unfold evCells at hno hb1 h'
  unfold evV at h' ⊢
  unfold evCells at h' ⊢
  go_enter_defers Tryz.func44, Tryz.ntmps44
  go_wp2_with fail
  with_reducible refine Calls.mono h'.out ?_
  rintro r w2 ⟨v, rfl, hv, hb2⟩
  have hn2 := Lib.hid (hno.out.below hb2 hno.out.lt)
  have c0 := hn2.out.cell 0
  have f0 := hn2.out.free 0
  have hv' := Lib.hid hv
  have hb2' := Lib.hid hb2
  clear hv hb2
  go_wp2
  refine leaves_cons (f := 65) (args := #[.pointer (some ⟨w.heap.size + 1, 0, none⟩)]) (by simp) (by simp [go_sem]) ?_
  refine (catch2_idle ⟨w.heap.size + 1, 0, none⟩ _).mono ?_
  rintro e u' w'' ⟨rfl, rfl, rfl⟩
  have c1 := (hn2.out.put 0 (.int .i64 0)).cell 0
  simp [Leaves, settle, results, Tryz.results44, go_sem, c1]
  exact ⟨hset _ _ _ hv'.out, (hb1.out.trans (hb2'.out.mono hb1.out.size)).setCell (p := ⟨w.heap.size + 1, 0, none⟩) hBle.out _⟩
set_option maxRecDepth 100000 in
set_option maxHeartbeats 2000000 in
theorem face2_no (OF : Nat) (n : Int) (e : Ev) (w : World) (hen : ∀ args W, (callFunc OF args).run Tryz.prog W = .ok (.enter OF args) W)
    (h : Calls Tryz.prog OF #[evV e] ((w.alloc (.cells (evCells e) 37)).alloc (.cells #[.int .i64 0] 25)) fun r w' => r = .panicked (refuseD n) ∧ Below ((w.alloc (.cells (evCells e) 37)).alloc (.cells #[.int .i64 0] 25)).heap.size ((w.alloc (.cells (evCells e) 37)).alloc (.cells #[.int .i64 0] 25)) w') :
    Calls Tryz.prog 44 #[.func (.func OF) #[] #[], evV e] w fun r w' => r = .returned (.tuple #[.pointer none, .int .i64 n]) ∧ Below w.heap.size w w' := by
  have hmf : ∀ (fn : Fn) (first cap : Array Value) (w : World), (Instr.makeFunc fn first cap).run Tryz.prog w = .ok (.func fn first cap) w := fun _ _ _ _ => rfl
  have hno := Lib.hid (show Has ((w.alloc (.cells (evCells e) 37)).alloc (.cells #[.int .i64 0] 25)) (w.heap.size + 1) 25 #[.int .i64 0] from (by have := Has.new (w.alloc (.cells (evCells e) 37)) 25 #[.int .i64 0]; rw [World.size_alloc] at this; exact this))
  have hb1 := Lib.hid (show Below w.heap.size w ((w.alloc (.cells (evCells e) 37)).alloc (.cells #[.int .i64 0] 25)) from ((Below.refl _ _).alloc (Nat.le_refl _) _).alloc (by simp) _)
  have h' := Lib.hid h
  have hBle : Hid (w.heap.size ≤ w.heap.size + 1) := Lib.hid (by omega)
  clear h
  unfold evCells at hno hb1 h'
  unfold evV at h' ⊢
  unfold evCells at h' ⊢
  go_enter_defers Tryz.func44, Tryz.ntmps44
  go_wp2_with fail
  with_reducible refine Calls.mono h'.out ?_
  rintro r w2 ⟨rfl, hb2⟩
  have hn2 := Lib.hid (hno.out.below hb2 hno.out.lt)
  have hb2' := Lib.hid hb2
  clear hb2
  refine leaves_cons (f := 65) (args := #[.pointer (some ⟨w.heap.size + 1, 0, none⟩)]) (by simp) (by simp [go_sem]) ?_
  refine (catch2_no (w.heap.size + 1) 0 n _ hn2.out).mono ?_
  rintro e u' w'' ⟨rfl, rfl, rfl⟩
  have c1 := ((hn2.out.put 0 (.int .i64 n)).alloc (.cells #[.int .i64 n] 144)).cell 0
  simp [Leaves, settle, results, Tryz.results44, go_sem, c1]
  exact ((hb1.out.trans (hb2'.out.mono hb1.out.size)).setCell (p := ⟨w.heap.size + 1, 0, none⟩) hBle.out _).alloc (by have := hb1.out.size; have := hb2'.out.size; simp; omega) _
def FaceFrR (e : Ev) (w : World) (r : Ending) (w' : World) : Prop :=
  ((rightE e = true ∧ ∃ k, r = .returned (.tuple #[.pointer (some ⟨k, 0, none⟩), .int .i64 0]) ∧ Has w' k 147 (frCells e (.slice none 0 0)) ∧ w.heap.size ≤ k) ∨ (rightE e = false ∧ r = .returned (.tuple #[.pointer none, .int .i64 2]))) ∧ Below w.heap.size w w'
def errE (e : Ev) : Int := if rightE e = true then 0 else 2
def ShortE (e : Ev) : Prop := e.1.length ≤ 1099511627776 ∧ e.2.1.length ≤ 1099511627776 ∧ e.2.2.length ≤ 1099511627776
theorem faceFr_any (e : Ev) (w : World) (hl : ShortE e) (hT : EvT w) : Calls Tryz.prog 44 #[.func (.func 45) #[] #[], evV e] w (FaceFrR e w) := by
  have hb : Below w.heap.size w ((w.alloc (.cells (evCells e) 37)).alloc (.cells #[.int .i64 0] 25)) := ((Below.refl _ _).alloc (Nat.le_refl _) _).alloc (by simp) _
  have h := framed_any e _ hl (hT.below hb).tab (hT.below hb).sg
  have hen := enters_of Tryz.func45 (by kernel_rfl) rfl
  have hz : ((w.alloc (.cells (evCells e) 37)).alloc (.cells #[.int .i64 0] 25)).heap.size = w.heap.size + 2 := by simp
  cases hr : rightE e with
  | true =>
    refine (face2_yes _ e w (fun v X => v = .pointer (some ⟨w.heap.size + 3, 0, none⟩) ∧ Has X (w.heap.size + 3) 147 (frCells e (.slice none 0 0))) hen (fun v X u hv => ⟨hv.1, hv.2.other (by omega) u⟩) (h.mono (fun r w' h => ?_))).mono (fun r w' h => ?_)
    · rcases h.1 with ⟨_, h1, h2⟩ | h1
      · rw [hz] at h1 h2
        exact ⟨_, h1, ⟨rfl, h2⟩, h.2⟩
      · rw [hr] at h1; cases h1.1
    · obtain ⟨v, h1, ⟨rfl, h2⟩, h3⟩ := h
      exact ⟨.inl ⟨hr, _, h1, h2, by omega⟩, h3⟩
  | false =>
    refine (face2_no _ 2 e w hen (h.mono (fun r w' h => ?_))).mono (fun r w' h => ⟨.inr ⟨hr, h.1⟩, h.2⟩)
    rcases h.1 with ⟨h1, _⟩ | h1
    · rw [hr] at h1; cases h1
    · exact ⟨h1.2, h.2⟩
set_option maxRecDepth 100000 in
set_option maxHeartbeats 2000000 in
theorem check_any (e : Ev) (w : World) (hl : ShortE e) (hT : EvT w) : Calls Tryz.prog 30 #[evV e] w fun r w' => r = .returned (.int .i64 (errE e)) ∧ Below w.heap.size w w' := by
  have hb : Below w.heap.size w (w.alloc (.cells (evCells e) 37)) := (Below.refl _ _).alloc (Nat.le_refl _) _
  have h := Lib.hid (faceFr_any e _ hl (hT.below hb))
  have hb' := Lib.hid hb
  clear hT hb
  unfold evV evCells at *
  go_enter Tryz.func30, Tryz.ntmps30
  go_wp2_with fail
  with_reducible refine Calls.mono h.out ?_
  rintro r w2 ⟨⟨hr, k, rfl, _, _⟩ | ⟨hr, rfl⟩, hb2⟩
  · have hb2' := Lib.hid hb2
    clear hb2
    go_wp2
    go_ret
    exact ⟨by unfold errE; rw [hr]; rfl, hb'.out.trans (hb2'.out.mono (by simp))⟩
  · have hb2' := Lib.hid hb2
    clear hb2
    go_wp2
    go_ret
    exact ⟨by unfold errE; rw [hr]; rfl, hb'.out.trans (hb2'.out.mono (by simp))⟩
end Go.Proofs.YtlcfpnegpihicaaGreatDoor
