import Derived.Test.YthdmmlaahjgijaaDoorL
import Derived.Test.YthdmmlaahjgijaaDoorAb
import Derived.Deep.MidRow
import Derived.Laws.BitsLemmas
import Derived.Laws.BitsAllLaws
import Derived.WalkSpells
import Derived.WalkLawsBesides
import Derived.Outline
namespace Go.Proofs.YthdmmlaahjgijaaDoor
open Go.RowKit

/-! ## Lead bytes -/
def leastN (k : Nat) : Int := if k = 0 then 0 else if k = 1 then 128 else if k = 2 then 2048 else if k = 3 then 4096 else if k = 4 then 53248 else if k = 5 then 57344 else if k = 6 then 65536 else if k = 7 then 262144 else 1048576
def mostN (k : Nat) : Int := if k = 0 then 127 else if k = 1 then 2047 else if k = 2 then 4095 else if k = 3 then 53247 else if k = 4 then 55295 else if k = 5 then 65535 else if k = 6 then 262143 else if k = 7 then 1048575 else 1114111
def rowV (k : Nat) : Array Value := #[.int .i64 (leastN k), .int .i64 (mostN k), .int .u8 (markN k : Int), .int .i64 (moreN k : Int)]
/-- The byte at place j of a point's bytes, by a mark and how many bytes come behind. -/
def byteN (mark more p j : Nat) : Nat := if j = 0 then mark + p / 64 ^ more else 128 + p / 64 ^ (more - j) % 64
theorem join_lead {m b : Nat} (h : m = 0 ∧ b < 128 ∨ m = 192 ∧ b < 32 ∨ m = 224 ∧ b < 16 ∨ m = 240 ∧ b < 8) : bits .or .u8 (m : Int) (b : Int) = ((m + b : Nat) : Int) := by
  rcases h with ⟨rfl, h⟩ | ⟨rfl, h⟩ | ⟨rfl, h⟩ | ⟨rfl, h⟩
  · rw [u8_or_nat 0 b (by omega) (by omega)]; simp
  · exact (u8_or192 (b : Int) (by omega) (by omega)).trans (by omega)
  · exact (u8_or224 (b : Int) (by omega) (by omega)).trans (by omega)
  · exact (u8_or240 (b : Int) (by omega) (by omega)).trans (by omega)
theorem wraps_i64 (n : Int) (h₀ : 0 ≤ n) (h₁ : n < 2 ^ 62) : IntKind.i64.wrap n = n := by
  rw [IntKind.wrap_i64]
  have : (2 : Int) ^ 62 = 4611686018427387904 := by decide
  omega
theorem i64_and63 (x : Int) (h₀ : 0 ≤ x) (h₁ : x < 2 ^ 62) : bits .and .i64 x 63 = x % 64 := bits_mask .i64 62 (by decide) wraps_i64 6 (by decide) x h₀ h₁

theorem shifted (p m : Nat) : ((p : Int) / 2 ^ (6 * m)) = ((p / 64 ^ m : Nat) : Int) := by
  have : (2 : Int) ^ (6 * m) = ((64 ^ m : Nat) : Int) := by
    rw [Int.pow_mul]; simp
  rw [this]; simp
theorem ret_u8 {a b : Int} (h : a = b) : Ending.returned (.int .u8 a) = .returned (.int .u8 b) := by rw [h]
theorem ret_bool {a b : Bool} (h : a = b) : Ending.returned (.bool a) = .returned (.bool b) := by rw [h]

section
set_option maxHeartbeats 400000
theorem byteOf_any (a b : Int) (mark more p j : Nat) (w : World) (hm : more ≤ 3) (hj : j ≤ more) (hp : p ≤ 1114111) (hmk : mark = 0 ∧ p / 64 ^ more < 128 ∨ mark = 192 ∧ p / 64 ^ more < 32 ∨ mark = 224 ∧ p / 64 ^ more < 16 ∨ mark = 240 ∧ p / 64 ^ more < 8) :
    Calls Tryd.prog 45 #[.agg #[.int .i64 a, .int .i64 b, .int .u8 (mark : Int), .int .i64 (more : Int)], .int .i64 (p : Int), .int .i64 (j : Int)] w
      fun e w' => e = .returned (.int .u8 ((byteN mark more p j : Nat) : Int)) ∧ Below w.heap.size w w' := by
  have hmk' := Lib.hid hmk
  clear hmk
  by_cases h0 : j = 0
  · subst h0
    go_enter Tryd.func45, Tryd.ntmps45
    go_wp2
    go_ret
    refine ⟨ret_u8 ?_, (Below.refl _ _).alloc (Nat.le_refl _) _⟩
    have hb : p / 64 ^ more < 256 := by rcases hmk'.out with h | h | h | h <;> omega
    rw [shifted, byteN, if_pos rfl]
    have hmk2 := hmk'.out
    generalize p / 64 ^ more = q at hb hmk2 ⊢
    rw [show ((q : Int) % 256) = (q : Int) from by omega, join_lead hmk2]
  · go_enter Tryd.func45, Tryd.ntmps45
    go_wp2
    go_ret
    refine ⟨ret_u8 ?_, (Below.refl _ _).alloc (Nat.le_refl _) _⟩
    have hs := shifted p (more - j)
    have hle : p / 64 ^ (more - j) ≤ p := Nat.div_le_self _ _
    have h62 : (2 : Int) ^ 62 = 4611686018427387904 := by decide
    rw [hs, byteN, if_neg h0]
    generalize p / 64 ^ (more - j) = q at hle ⊢
    rw [i64_and63 _ (by omega) (by omega)]
    rw [show ((q : Int) % 64 % 256) = ((q % 64 : Nat) : Int) from by omega]
    exact (u8_or128 _ (by omega) (by omega)).trans (by omega)
end

/-- Row k takes a byte at place j. -/
def takesB (k b j : Nat) : Bool := decide (byteN (markN k) (moreN k) (leastN k).toNat j ≤ b) && decide (b ≤ byteN (markN k) (moreN k) (mostN k).toNat j)
theorem leastN_ok {k : Nat} (_hk : k < 9) : 0 ≤ leastN k ∧ leastN k ≤ 1114111 ∧ 0 ≤ mostN k ∧ mostN k ≤ 1114111 := by unfold leastN mostN; (repeat' split) <;> omega
theorem marks_ok {k : Nat} (hk : k < 9) : ∀ p : Nat, (p = (leastN k).toNat ∨ p = (mostN k).toNat) → markN k = 0 ∧ p / 64 ^ moreN k < 128 ∨ markN k = 192 ∧ p / 64 ^ moreN k < 32 ∨ markN k = 224 ∧ p / 64 ^ moreN k < 16 ∨ markN k = 240 ∧ p / 64 ^ moreN k < 8 := by
  have hks : k = 0 ∨ k = 1 ∨ k = 2 ∨ k = 3 ∨ k = 4 ∨ k = 5 ∨ k = 6 ∨ k = 7 ∨ k = 8 := by omega
  rcases hks with rfl | rfl | rfl | rfl | rfl | rfl | rfl | rfl | rfl <;> (rintro p (rfl | rfl) <;> decide)
set_option maxHeartbeats 1000000 in
theorem takes_lead {k b : Nat} (hk : k < 9) : takesB k b 0 = decide (kOf b = k) := by
  have hks : k = 0 ∨ k = 1 ∨ k = 2 ∨ k = 3 ∨ k = 4 ∨ k = 5 ∨ k = 6 ∨ k = 7 ∨ k = 8 := by omega
  have key : ∀ lo hi : Nat, byteN (markN k) (moreN k) (leastN k).toNat 0 = lo → byteN (markN k) (moreN k) (mostN k).toNat 0 = hi → ((lo ≤ b ∧ b ≤ hi) ↔ kOf b = k) → takesB k b 0 = decide (kOf b = k) := by
    intro lo hi h1 h2 h3
    unfold takesB
    rw [h1, h2, Bool.eq_iff_iff]
    simpa using h3
  rcases hks with rfl | rfl | rfl | rfl | rfl | rfl | rfl | rfl | rfl
  · exact key 0 127 (by decide) (by decide) (by unfold kOf; (repeat' split) <;> omega)
  · exact key 194 223 (by decide) (by decide) (by unfold kOf; (repeat' split) <;> omega)
  · exact key 224 224 (by decide) (by decide) (by unfold kOf; (repeat' split) <;> omega)
  · exact key 225 236 (by decide) (by decide) (by unfold kOf; (repeat' split) <;> omega)
  · exact key 237 237 (by decide) (by decide) (by unfold kOf; (repeat' split) <;> omega)
  · exact key 238 239 (by decide) (by decide) (by unfold kOf; (repeat' split) <;> omega)
  · exact key 240 240 (by decide) (by decide) (by unfold kOf; (repeat' split) <;> omega)
  · exact key 241 243 (by decide) (by decide) (by unfold kOf; (repeat' split) <;> omega)
  · exact key 244 244 (by decide) (by decide) (by unfold kOf; (repeat' split) <;> omega)
theorem takes_in {k j b : Nat} (hk : k < 9) (h1 : 1 ≤ j) (hj : j ≤ moreN k) : takesB k b j = decide (inR k j b) := by
  have hks : k = 0 ∨ k = 1 ∨ k = 2 ∨ k = 3 ∨ k = 4 ∨ k = 5 ∨ k = 6 ∨ k = 7 ∨ k = 8 := by omega
  have hjs : j = 1 ∨ j = 2 ∨ j = 3 := by have := moreN_le k; omega
  have key : byteN (markN k) (moreN k) (leastN k).toNat j = loN k j → byteN (markN k) (moreN k) (mostN k).toNat j = hiN k j → takesB k b j = decide (inR k j b) := by
    intro h1 h2
    unfold takesB
    rw [h1, h2, Bool.eq_iff_iff]
    simp only [Bool.and_eq_true, decide_eq_true_eq]
    exact Iff.rfl
  rcases hks with rfl | rfl | rfl | rfl | rfl | rfl | rfl | rfl | rfl <;> rcases hjs with rfl | rfl | rfl <;> first | exact key (by decide) (by decide) | (exfalso; revert hj; decide)

theorem bcell {W w1 : World} (hb : Below W.heap.size W w1) : (∀ b o, b < W.heap.size → w1.cell? ⟨b, o, none⟩ = W.cell? ⟨b, o, none⟩) ∧ (∀ b o, b < W.heap.size → w1.frozen? ⟨b, o, none⟩ = W.frozen? ⟨b, o, none⟩) :=
  ⟨fun b o h => hb.cell (p := ⟨b, o, none⟩) h, fun b o h => hb.frozen (p := ⟨b, o, none⟩) h⟩
section
set_option maxHeartbeats 800000
theorem takes_any (k b j : Nat) (w : World) (hk : k < 9) (hj : j ≤ moreN k) :
    Calls Tryd.prog 74 #[.agg (rowV k), .int .u8 (b : Int), .int .i64 (j : Int)] w fun e w' => e = .returned (.bool (takesB k b j)) ∧ Below w.heap.size w w' := by
  have hl := leastN_ok hk
  have hm := moreN_le k
  obtain ⟨l, hl1⟩ := Int.eq_ofNat_of_zero_le hl.1
  obtain ⟨m, hm1⟩ := Int.eq_ofNat_of_zero_le hl.2.2.1
  have c1 := fun w => byteOf_any (leastN k) (mostN k) (markN k) (moreN k) l j w hm hj (by omega) (marks_ok hk l (.inl (by omega)))
  have c2 := fun w => byteOf_any (leastN k) (mostN k) (markN k) (moreN k) m j w hm hj (by omega) (marks_ok hk m (.inr (by omega)))
  have e1 : takesB k b j = (decide (byteN (markN k) (moreN k) l j ≤ b) && decide (b ≤ byteN (markN k) (moreN k) m j)) := by
    unfold takesB; rw [hl1, hm1]; rfl
  rw [e1]
  unfold rowV
  rw [hl1, hm1] at c1 c2 ⊢
  clear e1 hl
  have hid := Lib.hid (And.intro hl1 hm1)
  clear hl1 hm1
  have d1 := Lib.hid c1
  have d2 := Lib.hid c2
  clear c1 c2
  generalize byteN (markN k) (moreN k) l j = x at d1 ⊢
  generalize byteN (markN k) (moreN k) m j = y at d2 ⊢
  generalize (markN k) = mk at d1 d2 ⊢
  generalize (moreN k) = mr at d1 d2 ⊢
  have hid2 := Lib.hid hm
  have hid3 := Lib.hid hj
  clear hm hj
  by_cases hx : x ≤ b
  · go_enter Tryd.func74, Tryd.ntmps74
    go_wp2_with fail
    refine (d1.out _).mono ?_
    rintro e w1 ⟨rfl, hb1⟩
    obtain ⟨hc, hf⟩ := bcell hb1
    go_wp2_with fail
    refine (d2.out _).mono ?_
    rintro e w2 ⟨rfl, hb2⟩
    go_wp2
    go_ret
    exact ⟨ret_bool (by simp [hx]), below_on (below_on ((Below.refl _ _).alloc (Nat.le_refl _) _) hb1) hb2⟩
  · go_enter Tryd.func74, Tryd.ntmps74
    go_wp2_with fail
    refine (d1.out _).mono ?_
    rintro e w1 ⟨rfl, hb1⟩
    obtain ⟨hc, hf⟩ := bcell hb1
    have hx2 : decide (x ≤ b) = false := by simpa using hx
    go_wp2
    go_ret
    exact ⟨ret_bool (by simp [hx]), below_on ((Below.refl _ _).alloc (Nat.le_refl _) _) hb1⟩
end

/-! ## The table -/
def leadsCells : List Value := [.int .i64 0, .int .i64 127, .int .u8 0, .int .i64 0, .int .i64 128, .int .i64 2047, .int .u8 192, .int .i64 1, .int .i64 2048, .int .i64 4095, .int .u8 224, .int .i64 2, .int .i64 4096, .int .i64 53247, .int .u8 224, .int .i64 2, .int .i64 53248, .int .i64 55295, .int .u8 224, .int .i64 2, .int .i64 57344, .int .i64 65535, .int .u8 224, .int .i64 2, .int .i64 65536, .int .i64 262143, .int .u8 240, .int .i64 3, .int .i64 262144, .int .i64 1048575, .int .u8 240, .int .i64 3, .int .i64 1048576, .int .i64 1114111, .int .u8 240, .int .i64 3]
def Tab (W : World) : Prop := ∃ t cs, Has W 0 t cs ∧ ∀ (j : Nat) (v : Value), leadsCells[j]? = some v → cs[j]? = some v
theorem Tab.range {W : World} (h : Tab W) : W.rangeAt 0 0 leadsCells := by
  obtain ⟨t, cs, h1, h2⟩ := h
  intro j v hv
  rw [Nat.zero_add]
  exact (h1.cell j).trans (h2 j v hv)
theorem Tab.lt {W : World} (h : Tab W) : 0 < W.heap.size := by
  obtain ⟨t, cs, h1, h2⟩ := h
  exact h1.lt
theorem Tab.kept {W W' : World} (h : Tab W) (hb : W'.heap[0]? = W.heap[0]?) : Tab W' := by
  obtain ⟨t, cs, h1, h2⟩ := h
  exact ⟨t, cs, hb.trans h1, h2⟩
theorem Tab.below {W W' : World} (h : Tab W) (hb : Below W.heap.size W W') : Tab W' := h.kept (hb.block _ h.lt)
theorem lead_at0 (w : World) : (Instr.index 122 (.agg leadsCells.toArray) (.int .i64 ((0 : Nat) : Int))).run Tryd.prog w = .ok (.agg (rowV 0)) w := by kernel_rfl
theorem lead_at1 (w : World) : (Instr.index 122 (.agg leadsCells.toArray) (.int .i64 ((1 : Nat) : Int))).run Tryd.prog w = .ok (.agg (rowV 1)) w := by kernel_rfl
theorem lead_at2 (w : World) : (Instr.index 122 (.agg leadsCells.toArray) (.int .i64 ((2 : Nat) : Int))).run Tryd.prog w = .ok (.agg (rowV 2)) w := by kernel_rfl
theorem lead_at3 (w : World) : (Instr.index 122 (.agg leadsCells.toArray) (.int .i64 ((3 : Nat) : Int))).run Tryd.prog w = .ok (.agg (rowV 3)) w := by kernel_rfl
theorem lead_at4 (w : World) : (Instr.index 122 (.agg leadsCells.toArray) (.int .i64 ((4 : Nat) : Int))).run Tryd.prog w = .ok (.agg (rowV 4)) w := by kernel_rfl
theorem lead_at5 (w : World) : (Instr.index 122 (.agg leadsCells.toArray) (.int .i64 ((5 : Nat) : Int))).run Tryd.prog w = .ok (.agg (rowV 5)) w := by kernel_rfl
theorem lead_at6 (w : World) : (Instr.index 122 (.agg leadsCells.toArray) (.int .i64 ((6 : Nat) : Int))).run Tryd.prog w = .ok (.agg (rowV 6)) w := by kernel_rfl
theorem lead_at7 (w : World) : (Instr.index 122 (.agg leadsCells.toArray) (.int .i64 ((7 : Nat) : Int))).run Tryd.prog w = .ok (.agg (rowV 7)) w := by kernel_rfl
theorem lead_at8 (w : World) : (Instr.index 122 (.agg leadsCells.toArray) (.int .i64 ((8 : Nat) : Int))).run Tryd.prog w = .ok (.agg (rowV 8)) w := by kernel_rfl
theorem lead_at {k : Nat} (hk : k < 9) (w : World) : (Instr.index 122 (.agg leadsCells.toArray) (.int .i64 (k : Int))).run Tryd.prog w = .ok (.agg (rowV k)) w := by
  have hks : k = 0 ∨ k = 1 ∨ k = 2 ∨ k = 3 ∨ k = 4 ∨ k = 5 ∨ k = 6 ∨ k = 7 ∨ k = 8 := by omega
  rcases hks with rfl | rfl | rfl | rfl | rfl | rfl | rfl | rfl | rfl
  · exact lead_at0 w
  · exact lead_at1 w
  · exact lead_at2 w
  · exact lead_at3 w
  · exact lead_at4 w
  · exact lead_at5 w
  · exact lead_at6 w
  · exact lead_at7 w
  · exact lead_at8 w
def zeroRow : Array Value := #[.int .i64 0, .int .i64 0, .int .u8 0, .int .i64 0]
end Go.Proofs.YthdmmlaahjgijaaDoor
