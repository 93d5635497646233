import Derived.Test.YtfblkfjjpnnhhaaDoorUc
namespace Go.Proofs.YtfblkfjjpnnhhaaDoor
open Go.RowKit

/-! ## Take, Peek, Drop, whatever number is asked for -/
/-- What is left, what is told, the error. -/
def Asked (l : List UInt8) (n : Int) (y z : List UInt8) (no : Int) : Prop := (n < 0 ∧ y = l ∧ z = [] ∧ no = 2) ∨ (0 ≤ n ∧ y = l.drop n.toNat ∧ z = l.take n.toNat ∧ no = 0)
theorem asked_is (l : List UInt8) (n : Int) : ∃ y z no, Asked l n y z no := by
  by_cases h : n < 0
  · exact ⟨_, _, _, .inl ⟨h, rfl, rfl, rfl⟩⟩
  · exact ⟨_, _, _, .inr ⟨by omega, rfl, rfl, rfl⟩⟩
theorem refTake_uni {l y z : List UInt8} {n no : Int} (ha : Asked l n y z no) (A : Option Addr) (c : Nat) (S : Nat → Prop) (room : Nat) (w : World) (hp : Fine w S ⟨A, l, c⟩) (hS : ∀ k, S k → k < w.heap.size) :
    Calls Tryd.prog 23 #[.agg #[.slice A l.length c, .int .i64 (room : Int)], .int .i64 n] w fun e w' =>
      ∃ B b D d, e = .returned (.tuple #[.agg #[.slice B y.length b, .int .i64 (room : Int)], .slice D z.length d, .int .i64 no]) ∧ Fine w' S ⟨B, y, b⟩ ∧ Fine w' S ⟨D, z, d⟩ ∧ Below w.heap.size w w' := by
  rcases ha with ⟨h, rfl, rfl, rfl⟩ | ⟨h, rfl, rfl, rfl⟩
  · refine (refTake_neg ⟨A, y, c⟩ room n w h).mono ?_
    rintro e w' ⟨rfl, hb⟩
    exact ⟨A, c, none, 0, rfl, hp.kept (Kept.below hb hS), ⟨Rd.nil _ _ _, Nat.le_refl _, by simp⟩, hb⟩
  · have := refTake_any A l c S room n.toNat w hp hS
    rw [Int.toNat_of_nonneg h] at this
    refine this.mono ?_
    rintro e w' ⟨⟨B, y, b⟩, ⟨D, z, d⟩, he, hy, hz, h1, h2, h3⟩
    simp only at hy hz
    subst hy hz
    exact ⟨B, b, D, d, he, h1, h2, h3⟩
theorem drop_uni {l y z : List UInt8} {n no : Int} (ha : Asked l n y z no) (g r room : Nat) (w : World) (h : Qu w g r room l) :
    Calls Tryd.prog 17 #[.pointer (some ⟨g, 0, none⟩), .int .i64 n] w fun e w' => e = .returned (.tuple #[.int .i64 (z.length : Int), .int .i64 no]) ∧ Qu w' g r room y ∧ Turn g r w w' := by
  rcases ha with ⟨hn, rfl, rfl, rfl⟩ | ⟨hn, rfl, rfl, rfl⟩
  · refine (take_no (some ⟨g, 0, none⟩) n 2 (.inr rfl) w (asked_neg g n w h.c4 hn)).2.2.mono ?_
    rintro e w' ⟨rfl, rfl⟩
    exact ⟨rfl, h, Turn.refl _ _ _⟩
  · refine (drop_call g r room l n w h hn).mono ?_
    rintro e w' ⟨he, hq, hT, hz⟩
    exact ⟨he, hq, hT⟩
theorem take_uni {l y z : List UInt8} {n no : Int} (ha : Asked l n y z no) (g r room : Nat) (w : World) (h : Qu w g r room l) :
    Calls Tryd.prog 15 #[.pointer (some ⟨g, 0, none⟩), .int .i64 n] w fun e w' => ∃ B b, e = .returned (.tuple #[.slice B z.length z.length, .int .i64 no]) ∧ Row w' b 5 B z ∧ w.heap.size ≤ b ∧ Qu w' g r room y ∧ Turn g r w w' := by
  rcases ha with ⟨hn, rfl, rfl, rfl⟩ | ⟨hn, rfl, rfl, rfl⟩
  · refine (take_no (some ⟨g, 0, none⟩) n 2 (.inr rfl) w (asked_neg g n w h.c4 hn)).1.mono ?_
    rintro e w' ⟨rfl, rfl⟩
    exact ⟨none, w.heap.size, rfl, fun h => absurd h (by simp), Nat.le_refl _, h, Turn.refl _ _ _⟩
  · refine (take_any g r room l n w h hn).mono ?_
    rintro e w' ⟨b, he, hb, hwb, hq, hT⟩
    exact ⟨_, b, he, fun _ => ⟨rfl, hb⟩, hwb, hq, hT⟩
theorem peek_uni {l y z : List UInt8} {n no : Int} (ha : Asked l n y z no) (g r room : Nat) (w : World) (h : Qu w g r room l) :
    Calls Tryd.prog 16 #[.pointer (some ⟨g, 0, none⟩), .int .i64 n] w fun e w' => ∃ B b, e = .returned (.tuple #[.slice B z.length z.length, .int .i64 no]) ∧ Row w' b 5 B z ∧ w.heap.size ≤ b ∧ Below w.heap.size w w' := by
  rcases ha with ⟨hn, rfl, rfl, rfl⟩ | ⟨hn, rfl, rfl, rfl⟩
  · refine (take_no (some ⟨g, 0, none⟩) n 2 (.inr rfl) w (asked_neg g n w h.c4 hn)).2.1.mono ?_
    rintro e w' ⟨rfl, rfl⟩
    exact ⟨none, w.heap.size, rfl, fun h => absurd h (by simp), Nat.le_refl _, Below.refl _ _⟩
  · refine (peek_any g r room l n w h hn).mono ?_
    rintro e w' ⟨b, he, hb, hwb, hB⟩
    exact ⟨_, b, he, fun _ => ⟨rfl, hb⟩, hwb, hB⟩
end Go.Proofs.YtfblkfjjpnnhhaaDoor
