import Derived.Test.YtlbiniibkbhghaaGreatDoorPk4
import Derived.Test.YtlbiniibkbhghaaGreatDoorPk5
import Derived.Test.YtlbiniibkbhghaaGreatDoorPk6
namespace Go.Proofs.YtlbiniibkbhghaaGreatDoor
open Go.RowKit Go.Shelf

/-! ## The law's own words of a point -/
theorem byt_u8 {z : Int} {n : Nat} (h : z = n) (hn : n < 256) : Value.int .u8 z = byt (u8 n) := by
  unfold byt
  rw [u8_toNat hn, h]
theorem bs_new {w : World} {l : List UInt8} {cs : Array Value} {n : Nat} (hn : n = l.length) (hl : l.length ≤ 4) (h : cs = (byts l).toArray) : Bs (w.alloc (.cells cs 5)) w.heap.size (.slice (some ⟨w.heap.size, 0, none⟩) n n) l := by
  subst h; subst hn
  exact ⟨by rw [byts_length, Nat.mul_one], .inr ⟨w.heap.size, l.length, _, rfl, Nat.le_refl _, World.alloc_heap_new w _, Nat.le_refl _, by unfold maxLen; omega, by simp [byts], by rw [← byts_length l]; simp⟩⟩
set_option maxHeartbeats 1000000 in
theorem refBytes_any (z : Int) (n : Nat) (w : World) (hz : z = n) (hn : isPt n) : Calls Tryz.prog 77 #[.int .i64 z] w fun e w' => ∃ v, e = .returned v ∧ Bs w' w.heap.size v (ptB n) ∧ Below w.heap.size w w' := by
  unfold isPt at hn
  have hz' := Lib.hid hz
  have g0 : 0 ≤ z := by omega
  have g9 : z ≤ 1114111 := by omega
  clear hz
  by_cases h1 : n < 128
  · have g1 : z < 128 := by have := hz'.out; omega
    go_enter Tryz.func77, Tryz.ntmps77
    go_wp2
    go_ret
    refine ⟨_, rfl, ?_, (Below.refl _ _).alloc (Nat.le_refl _) _⟩
    unfold ptB
    rw [if_pos h1]
    exact bs_new rfl (by simp) (by have := hz'.out; rw [byt_u8 (n := n) (by omega) (by omega)]; rfl)
  · by_cases h2 : n < 2048
    · have g1 : 128 ≤ z := by have := hz'.out; omega
      have g2 : z < 2048 := by have := hz'.out; omega
      go_enter Tryz.func77, Tryz.ntmps77
      go_wp2
      go_ret
      refine ⟨_, rfl, ?_, (Below.refl _ _).alloc (Nat.le_refl _) _⟩
      unfold ptB
      rw [if_neg h1, if_pos h2]
      exact bs_new rfl (by simp) (by have := hz'.out; rw [byt_u8 (n := 192 + n / 64) (by omega) (by omega), byt_u8 (n := 128 + n % 64) (by omega) (by omega)]; rfl)
    · by_cases h3 : n < 65536
      · have g1 : 2048 ≤ z := by have := hz'.out; omega
        have g2 : z < 65536 := by have := hz'.out; omega
        go_enter Tryz.func77, Tryz.ntmps77
        go_wp2
        go_ret
        refine ⟨_, rfl, ?_, (Below.refl _ _).alloc (Nat.le_refl _) _⟩
        unfold ptB
        rw [if_neg h1, if_neg h2, if_pos h3]
        exact bs_new rfl (by simp) (by have := hz'.out; rw [byt_u8 (n := 224 + n / 4096) (by omega) (by omega), byt_u8 (n := 128 + n / 64 % 64) (by omega) (by omega), byt_u8 (n := 128 + n % 64) (by omega) (by omega)]; rfl)
      · have g1 : 65536 ≤ z := by have := hz'.out; omega
        go_enter Tryz.func77, Tryz.ntmps77
        go_wp2
        go_ret
        refine ⟨_, rfl, ?_, (Below.refl _ _).alloc (Nat.le_refl _) _⟩
        unfold ptB
        rw [if_neg h1, if_neg h2, if_neg h3]
        exact bs_new rfl (by simp) (by have := hz'.out; rw [byt_u8 (n := 240 + n / 262144) (by omega) (by omega), byt_u8 (n := 128 + n / 4096 % 64) (by omega) (by omega), byt_u8 (n := 128 + n / 64 % 64) (by omega) (by omega), byt_u8 (n := 128 + n % 64) (by omega) (by omega)]; rfl)
theorem ptB_at {p k : Nat} (hk : kPt (p : Int) = k) (h9 : k < 9) : (ptB p).length = moreN k + 1 ∧ (∀ j, j ≤ moreN k → (ptB p)[j]? = some (u8 (byteN (markN k) (moreN k) p j)) ∧ byteN (markN k) (moreN k) p j < 256) ∧ moreN k ≤ 3 ∧ p ≤ 1114111 ∧
    (markN k = 0 ∧ p / 64 ^ moreN k < 128 ∨ markN k = 192 ∧ p / 64 ^ moreN k < 32 ∨ markN k = 224 ∧ p / 64 ^ moreN k < 16 ∨ markN k = 240 ∧ p / 64 ^ moreN k < 8) := by
  have hr := kPt_row (p : Int)
  rw [hk] at hr
  have hh : (moreN k = 0 ∧ markN k = 0 ∧ p < 128 ∨ moreN k = 1 ∧ markN k = 192 ∧ 128 ≤ p ∧ p < 2048 ∨ moreN k = 2 ∧ markN k = 224 ∧ 2048 ≤ p ∧ p < 65536 ∨ moreN k = 3 ∧ markN k = 240 ∧ 65536 ≤ p) ∧ p ≤ 1114111 := by
    clear hk
    unfold moreN markN
    (repeat' split) <;> omega
  clear hr hk
  obtain ⟨h, hp⟩ := hh
  generalize moreN k = m at h ⊢
  generalize markN k = mk at h ⊢
  unfold ptB
  rcases h with ⟨rfl, rfl, h⟩ | ⟨rfl, rfl, h, h2⟩ | ⟨rfl, rfl, h, h2⟩ | ⟨rfl, rfl, h⟩
  · rw [if_pos h]
    refine ⟨rfl, fun j hj => ?_, by omega, hp, .inl ⟨rfl, by omega⟩⟩
    obtain rfl : j = 0 := by omega
    simp [byteN]; omega
  · rw [if_neg (by omega), if_pos h2]
    refine ⟨rfl, fun j hj => ?_, by omega, hp, .inr (.inl ⟨rfl, by omega⟩)⟩
    obtain rfl | rfl : j = 0 ∨ j = 1 := by omega
    all_goals (simp [byteN]; omega)
  · rw [if_neg (by omega), if_neg (by omega), if_pos h2]
    refine ⟨rfl, fun j hj => ?_, by omega, hp, .inr (.inr (.inl ⟨rfl, by omega⟩))⟩
    obtain rfl | rfl | rfl : j = 0 ∨ j = 1 ∨ j = 2 := by omega
    all_goals (simp [byteN]; omega)
  · rw [if_neg (by omega), if_neg (by omega), if_neg (by omega)]
    refine ⟨rfl, fun j hj => ?_, by omega, hp, .inr (.inr (.inr ⟨rfl, by omega⟩))⟩
    obtain rfl | rfl | rfl | rfl : j = 0 ∨ j = 1 ∨ j = 2 ∨ j = 3 := by omega
    all_goals (simp [byteN]; omega)
/-- The room, the first i bytes in it. -/
def roomL (p i : Nat) : List UInt8 := (ptB p).take i ++ List.replicate (4 - i) 0
theorem roomL_len {p i : Nat} (hi : i ≤ (ptB p).length) (h4 : (ptB p).length ≤ 4) : (roomL p i).length = 4 := by unfold roomL; simp; omega
theorem roomL_put {p i : Nat} {b : UInt8} (hi : (ptB p)[i]? = some b) (h4 : (ptB p).length ≤ 4) : (byts (roomL p i)).toArray.setIfInBounds i (byt b) = (byts (roomL p (i + 1))).toArray := by
  obtain ⟨hlt, hb⟩ := List.getElem?_eq_some_iff.1 hi
  apply Array.ext'
  simp only [Array.toList_setIfInBounds]
  unfold byts
  rw [← List.map_set]
  congr 1
  unfold roomL
  rw [List.set_append, if_neg (by simp; omega), List.take_add_one, hi]
  have : (List.take i (ptB p)).length = i := by simp; omega
  rw [this, Nat.sub_self]
  obtain ⟨m, hm⟩ : ∃ m, 4 - i = m + 1 := ⟨3 - i, by omega⟩
  rw [hm, show 4 - (i + 1) = m from by omega, List.replicate_succ]
  simp
def UOk (p : Nat) (w : World) (e : Ending) (w' : World) : Prop := ∃ A c, e = .returned (.tuple #[.slice A (ptB p).length c, .bool true]) ∧ Rd w' (fun b => w.heap.size ≤ b ∧ b < w'.heap.size) A (ptB p) ∧ Below w.heap.size w w'
end Go.Proofs.YtlbiniibkbhghaaGreatDoor
