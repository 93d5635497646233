import Derived.Test.YtajdlkohnafbeaaH
namespace Go.Proofs.Ytajdlkohnafbeaa
open Go.RowKit

/-! ## A ring that a law has made -/
structure Chain (w : World) (g r most first : Nat) (vs : List Int) (W : World) : Prop where
  q : Rg W g r most first vs
  gge : w.heap.size ≤ g
  rge : w.heap.size ≤ r
  b : Below w.heap.size w W
theorem Chain.turn {w W W' : World} {g r most first first' : Nat} {vs vs' : List Int} (h : Chain w g r most first vs W) (hq : Rg W' g r most first' vs') (hT : Turn g r W W') : Chain w g r most first' vs' W' :=
  ⟨hq, h.gge, h.rge, h.b.trans (hT.below h.gge h.rge h.b.size)⟩
theorem Chain.below {w W W' : World} {g r most first : Nat} {vs : List Int} (h : Chain w g r most first vs W) (hb : Below W.heap.size W W') : Chain w g r most first vs W' :=
  ⟨h.q.below hb, h.gge, h.rge, h.b.trans (hb.mono h.b.size)⟩
theorem Chain.drewN {w W : World} {g r most first : Nat} {vs : List Int} (h : Chain w g r most first vs W) (q : Nat) : Chain w g r most first vs (W.drewN q) := h.below (below_draws (Below.refl _ _) q)
theorem num_any (k : Int) (w : World) : Calls Try.prog 10 #[.int .i64 k] w fun e w' => e = .returned (.int .i64 k) ∧ w = w' := by
  go_enter Try.func10, Try.ntmps10
  go_wp2
  go_ret
  exact ⟨rfl, rfl⟩
/-! ## The chapter's rows -/
theorem new_two (w : World) : Calls Try.prog 8 #[.int .i64 2, .int .u64 10] w (Made 2 10 w) := new_ok 2 10 w (by omega) (by omega) (by omega)
theorem put_five {g r : Nat} {w : World} (h : Rg w g r 2 10 []) : Calls Try.prog 16 #[.pointer (some ⟨g, 0, none⟩), .int .i64 5] w fun e w' => e = .returned (.tuple #[.int .u64 10, .int .i64 0, .bool false, .int .i64 0]) ∧ Rg w' g r 2 10 [5] ∧ Turn g r w w' :=
  (put_room g r 2 10 10 [] 5 w h rfl (by omega) (by simp)).mono fun _ _ h => ⟨h.1, h.2.1, h.2.2.1⟩
theorem put_six {g r : Nat} {w : World} (h : Rg w g r 2 10 [5]) : Calls Try.prog 16 #[.pointer (some ⟨g, 0, none⟩), .int .i64 6] w fun e w' => e = .returned (.tuple #[.int .u64 11, .int .i64 0, .bool false, .int .i64 0]) ∧ Rg w' g r 2 10 [5, 6] ∧ Turn g r w w' :=
  (put_room g r 2 10 11 [5] 6 w h rfl (by omega) (by simp)).mono fun _ _ h => ⟨h.1, h.2.1, h.2.2.1⟩
theorem put_seven {g r : Nat} {w : World} (h : Rg w g r 2 10 [5, 6]) : Calls Try.prog 16 #[.pointer (some ⟨g, 0, none⟩), .int .i64 7] w fun e w' => e = .returned (.tuple #[.int .u64 12, .int .i64 5, .bool true, .int .i64 0]) ∧ Rg w' g r 2 11 [6, 7] ∧ Turn g r w w' :=
  (put_over g r 2 10 12 5 [6] 7 w h rfl (by omega) (by simp)).mono fun _ _ h => ⟨h.1, h.2.1, h.2.2.1⟩
theorem first_eleven {g r : Nat} {w : World} (h : Rg w g r 2 11 [6, 7]) : Calls Try.prog 21 #[.pointer (some ⟨g, 0, none⟩)] w fun e w' => e = .returned (.int .u64 11) ∧ w = w' := first_any g r 2 11 [6, 7] w h
theorem next_thirteen {g r : Nat} {w : World} (h : Rg w g r 2 11 [6, 7]) : Calls Try.prog 22 #[.pointer (some ⟨g, 0, none⟩)] w fun e w' => e = .returned (.int .u64 13) ∧ w = w' := next_any g r 2 11 13 [6, 7] w h rfl
theorem get_ten {g r : Nat} {w : World} (h : Rg w g r 2 11 [6, 7]) : Calls Try.prog 18 #[.pointer (some ⟨g, 0, none⟩), .int .u64 10] w fun e w' => e = .returned (.tuple #[.int .i64 0, .bool false]) ∧ ∃ q, w' = w.drewN q := get_any g r 2 11 10 [6, 7] w h (by omega)
theorem get_twelve {g r : Nat} {w : World} (h : Rg w g r 2 11 [6, 7]) : Calls Try.prog 18 #[.pointer (some ⟨g, 0, none⟩), .int .u64 12] w fun e w' => e = .returned (.tuple #[.int .i64 7, .bool true]) ∧ ∃ q, w' = w.drewN q := get_any g r 2 11 12 [6, 7] w h (by omega)
theorem drop_six {g r : Nat} {w : World} (h : Rg w g r 2 11 [6, 7]) : Calls Try.prog 17 #[.pointer (some ⟨g, 0, none⟩)] w fun e w' => e = .returned (.tuple #[.int .i64 6, .bool true]) ∧ Rg w' g r 2 12 [7] ∧ Turn g r w w' :=
  (drop_any g r 2 11 6 [7] w h).mono fun _ _ h => ⟨h.1, h.2.1, h.2.2.1⟩
theorem drop_seven {g r : Nat} {w : World} (h : Rg w g r 2 12 [7]) : Calls Try.prog 17 #[.pointer (some ⟨g, 0, none⟩)] w fun e w' => e = .returned (.tuple #[.int .i64 7, .bool true]) ∧ Rg w' g r 2 13 [] ∧ Turn g r w w' :=
  (drop_any g r 2 12 7 [] w h).mono fun _ _ h => ⟨h.1, h.2.1, h.2.2.1⟩
theorem first_thirteen {g r : Nat} {w : World} (h : Rg w g r 2 13 []) : Calls Try.prog 21 #[.pointer (some ⟨g, 0, none⟩)] w fun e w' => e = .returned (.int .u64 13) ∧ w = w' := first_any g r 2 13 [] w h
theorem new_zero (w : World) : Calls Try.prog 8 #[.int .i64 0, .int .u64 1] w fun e w' => e = .returned (.tuple #[.pointer none, .int .i64 2]) ∧ w = w' := new_no 0 1 w (.inl (by omega))
set_option maxRecDepth 100000 in
set_option maxHeartbeats 1000000 in
theorem works_any (w : World) :
    Calls Try.prog 7 #[] w fun e w' => e = .returned (.bool true) ∧ Below w.heap.size w w' := by
  go_enter Try.func7, Try.ntmps7
  go_wp2_with fail
  refine (new_two w).mono ?_
  rintro e w1 ⟨g, r, rfl, hq, hg, hr, hB⟩
  have ch1 : Hid (Chain w g r 2 10 [] w1) := ⟨hq, hg, hr, hB⟩
  clear hq hg hr hB
  go_wp2_with fail
  refine (put_five ch1.out.q).mono ?_
  rintro e w2 ⟨rfl, hq, hT⟩
  have ch2 := Lib.hid (ch1.out.turn hq hT)
  clear ch1 hq hT
  go_wp2_with fail
  refine (put_six ch2.out.q).mono ?_
  rintro e w3 ⟨rfl, hq, hT⟩
  have ch3 := Lib.hid (ch2.out.turn hq hT)
  clear ch2 hq hT
  go_wp2_with fail
  refine (put_seven ch3.out.q).mono ?_
  rintro e w4 ⟨rfl, hq, hT⟩
  have ch4 := Lib.hid (ch3.out.turn hq hT)
  clear ch3 hq hT
  go_wp2_with fail
  refine (first_eleven ch4.out.q).mono ?_
  rintro e w' ⟨rfl, rfl⟩
  go_wp2_with fail
  refine (next_thirteen ch4.out.q).mono ?_
  rintro e w' ⟨rfl, rfl⟩
  go_wp2_with fail
  refine (get_ten ch4.out.q).mono ?_
  rintro e w5 ⟨rfl, q1, rfl⟩
  have ch5 := Lib.hid (ch4.out.drewN q1)
  clear ch4
  generalize w4.drewN q1 = w5 at ch5 ⊢
  go_wp2_with fail
  refine (get_twelve ch5.out.q).mono ?_
  rintro e w6 ⟨rfl, q2, rfl⟩
  have ch6 := Lib.hid (ch5.out.drewN q2)
  clear ch5
  generalize w5.drewN q2 = w6 at ch6 ⊢
  go_wp2_with fail
  refine (drop_six ch6.out.q).mono ?_
  rintro e w7 ⟨rfl, hq, hT⟩
  have ch7 := Lib.hid (ch6.out.turn hq hT)
  clear ch6 hq hT
  go_wp2_with fail
  refine (drop_seven ch7.out.q).mono ?_
  rintro e w8 ⟨rfl, hq, hT⟩
  have ch8 := Lib.hid (ch7.out.turn hq hT)
  clear ch7 hq hT
  go_wp2_with fail
  refine (drop_empty g r 2 13 w8 ch8.out.q).mono ?_
  rintro e w9 ⟨rfl, q3, rfl⟩
  have ch9 := Lib.hid (ch8.out.drewN q3)
  clear ch8
  generalize w8.drewN q3 = w9 at ch9 ⊢
  go_wp2_with fail
  refine (new_zero w9).mono ?_
  rintro e w' ⟨rfl, rfl⟩
  go_wp2_with (first | (go_at_call 10; refine (num_any _ _).mono ?_; rintro e w' ⟨rfl, rfl⟩) | (go_at_call 21; refine (first_thirteen ch9.out.q).mono ?_; rintro e w' ⟨rfl, rfl⟩))
  go_ret
  exact ⟨rfl, ch9.out.b⟩
end Go.Proofs.Ytajdlkohnafbeaa
