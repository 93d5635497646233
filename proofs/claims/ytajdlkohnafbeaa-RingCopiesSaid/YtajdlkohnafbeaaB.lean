import Derived.Test.YtajdlkohnafbeaaA
import Derived.WalkSpells
import Derived.WalkLawsBesides
import Derived.StillTailTactics
import Derived.BigQuiet
import Derived.Deep.QuietTactic
import Derived.Deep.OwnRows
import Derived.Outline
import Derived.Deep.RegionWith
import Derived.Great.Walk
namespace Go.Proofs.Ytajdlkohnafbeaa
open Go.RowKit

theorem ret_int {k : IntKind} {a b : Int} (h : a = b) : Ending.returned (.int k a) = .returned (.int k b) := by rw [h]
theorem ret_bool {a b : Bool} (h : a = b) : Ending.returned (.bool a) = .returned (.bool b) := by rw [h]
theorem below_of_drewN {w w' : World} {q : Nat} (h : Below (w.drewN q).heap.size (w.drewN q) w') : Below w.heap.size w w' := ⟨h.os, h.tape, h.output, h.size, h.block⟩
/-! ## The small ones -/
theorem none_no (g r most first : Nat) (vs : List Int) (w : World) (h : Rg w g r most first vs) :
    Calls Try.prog 30 #[.pointer (some ⟨g, 0, none⟩)] w fun e w' => e = .returned (.bool false) ∧ w = w' := by
  obtain ⟨cap, c2⟩ := h.c2
  have hp : (most == 0) = false := by have := h.num.1; rw [beq_eq_false_iff_ne]; omega
  have hq : ((most : Int) == 0) = false := by have := h.num.1; rw [beq_eq_false_iff_ne]; omega
  clear h
  go_enter Try.func30, Try.ntmps30
  go_wp2
  go_ret
  exact ⟨rfl, rfl⟩
/-- A ring that New did not make, or none. -/
def NoR (W : World) (v : Option Addr) : Prop := v = none ∨ ∃ g, v = some ⟨g, 0, none⟩ ∧ W.cell? ⟨g, 2, none⟩ = some (.slice none 0 0)
theorem none_yes (v : Option Addr) (w : World) (h : NoR w v) :
    Calls Try.prog 30 #[.pointer v] w fun e w' => e = .returned (.bool true) ∧ w = w' := by
  rcases h with rfl | ⟨g, rfl, c2⟩
  · go_enter Try.func30, Try.ntmps30
    go_wp2
    go_ret
    exact ⟨rfl, rfl⟩
  · go_enter Try.func30, Try.ntmps30
    go_wp2
    go_ret
    exact ⟨rfl, rfl⟩
theorem count_any (g r most first : Nat) (vs : List Int) (w : World) (h : Rg w g r most first vs) :
    Calls Try.prog 34 #[.pointer (some ⟨g, 0, none⟩)] w fun e w' => e = .returned (.int .i64 (vs.length : Int)) ∧ ∃ q, w' = w.drewN q := by
  have c0 := h.c0
  have c1 := h.c1
  obtain ⟨_, h1, h2, h3⟩ := h.num
  clear h
  go_enter Try.func34, Try.ntmps34
  go_wp2
  go_quiet (fail)
  go_wp2
  go_ret
  exact ⟨ret_int (by omega), _, rfl⟩
theorem spent_any (g r most first : Nat) (vs : List Int) (w : World) (h : Rg w g r most first vs) :
    Calls Try.prog 33 #[.pointer (some ⟨g, 0, none⟩)] w fun e w' => e = .returned (.bool (decide (18446744073709551614 < first + vs.length))) ∧ w = w' := by
  have c1 := h.c1
  clear h
  generalize first + vs.length = n at c1 ⊢
  go_enter Try.func33, Try.ntmps33
  go_wp2
  go_ret
  exact ⟨ret_bool (decide_eq_decide.2 (by omega)), rfl⟩
theorem lengthen_any (g n : Nat) (a b : Value) (w : World) (h : Has w g 50 #[a, .int .u64 (n : Int), b]) (hl : n ≤ 18446744073709551614) :
    Calls Try.prog 35 #[.pointer (some ⟨g, 0, none⟩)] w fun e w' => e = .returned (.int .u64 (n : Int)) ∧ w' = (w.setCell ⟨g, 1, none⟩ (.int .u64 ((n + 1 : Nat) : Int))).drew := by
  have c1 := h.cell 1
  have f1 := h.free 1
  clear h
  simp at c1
  go_enter Try.func35, Try.ntmps35
  go_wp2
  go_region
  go_wp2
  go_ret
  exact ⟨rfl, rfl⟩
theorem shorten_any (g n : Nat) (a b : Value) (w : World) (h : Has w g 50 #[.int .u64 (n : Int), a, b]) (hl : n ≤ 18446744073709551614) :
    Calls Try.prog 37 #[.pointer (some ⟨g, 0, none⟩)] w fun e w' => e = .returned (.int .u64 (n : Int)) ∧ w' = (w.setCell ⟨g, 0, none⟩ (.int .u64 ((n + 1 : Nat) : Int))).drew := by
  have c1 := h.cell 0
  have f1 := h.free 0
  clear h
  simp at c1
  go_enter Try.func37, Try.ntmps37
  go_wp2
  go_region
  go_wp2
  go_ret
  exact ⟨rfl, rfl⟩
theorem holds_any (g r most first : Nat) (vs : List Int) (i : Nat) (w : World) (h : Rg w g r most first vs) :
    Calls Try.prog 38 #[.pointer (some ⟨g, 0, none⟩), .int .u64 (i : Int)] w fun e w' => e = .returned (.bool (decide (first ≤ i ∧ i < first + vs.length))) ∧ w = w' := by
  have c0 := h.c0
  have c1 := h.c1
  clear h
  generalize first + vs.length = n at c1 ⊢
  go_enter Try.func38, Try.ntmps38
  by_cases h1 : (first : Int) ≤ (i : Int)
  · go_wp2
    go_ret
    exact ⟨ret_bool (decide_eq_decide.2 (by omega)), rfl⟩
  · have hd : decide ((first : Int) ≤ (i : Int)) = false := decide_eq_false h1
    go_wp2
    go_ret
    exact ⟨ret_bool (by rw [decide_eq_false (show ¬ first ≤ i by omega), Bool.false_and]), rfl⟩
theorem place_any (g most cap p : Nat) (A : Option Addr) (i : Nat) (w : World) (c2 : w.cell? ⟨g, 2, none⟩ = some (.slice A most cap)) (h1 : 1 ≤ most) (h2 : most ≤ 4096) (hi : i ≤ 18446744073709551615) (hp : i % most = p) :
    Calls Try.prog 44 #[.pointer (some ⟨g, 0, none⟩), .int .u64 (i : Int)] w fun e w' => e = .returned (.int .i64 (p : Int)) ∧ w = w' := by
  have hz : ((most : Int) == 0) = false := by rw [beq_eq_false_iff_ne]; omega
  have hml := Nat.mod_lt i (show 0 < most by omega)
  have hp' := Lib.hid hp
  clear hp
  go_enter Try.func44, Try.ntmps44
  go_wp2
  go_ret
  exact ⟨ret_int (by have := hp'.out; subst this; exact (Int.natCast_emod i most).symm), rfl⟩
/-- What stands at an index. -/
theorem value_any (g r most cap p i : Nat) (z : Int) (w : World) (c2 : w.cell? ⟨g, 2, none⟩ = some (.slice (some ⟨r, 0, none⟩) most cap)) (h1 : 1 ≤ most) (h2 : most ≤ 4096) (hi : i ≤ 18446744073709551615) (hp : i % most = p) (cz : w.cell? ⟨r, p, none⟩ = some (.int .i64 z)) :
    Calls Try.prog 32 #[.pointer (some ⟨g, 0, none⟩), .int .u64 (i : Int)] w fun e w' => e = .returned (.int .i64 z) ∧ ∃ q, w' = w.drewN q := by
  have hml : p < most := by have := Nat.mod_lt i (show 0 < most by omega); omega
  have hpl := Lib.hid (fun q => place_any g most cap p (some ⟨r, 0, none⟩) i (w.drewN q) c2 h1 h2 hi hp)
  clear hi hp
  go_enter Try.func32, Try.ntmps32
  go_wp2
  go_quiet ((go_at_call 44; exact Calls.quiet_of_same ((hpl.out _).mono fun _ _ h => ⟨h.1, h.2.symm⟩)))
  go_wp2
  go_ret
  exact ⟨rfl, _, rfl⟩
/-- A value is laid at an index. -/
theorem lay_any (g r most cap p i : Nat) (z : Int) (cs : Array Value) (w : World) (c2 : w.cell? ⟨g, 2, none⟩ = some (.slice (some ⟨r, 0, none⟩) most cap)) (h1 : 1 ≤ most) (h2 : most ≤ 4096) (hi : i ≤ 18446744073709551615) (hp : i % most = p) (hb : Has w r 3 cs) (hcs : most ≤ cs.size) :
    Calls Try.prog 36 #[.pointer (some ⟨g, 0, none⟩), .int .u64 (i : Int), .int .i64 z] w fun e w' => e = .returned (.tuple #[]) ∧ ∃ q, w' = (w.setCell ⟨r, p, none⟩ (.int .i64 z)).drewN q := by
  have hml : p < most := by have := Nat.mod_lt i (show 0 < most by omega); omega
  have hpl := Lib.hid (fun q => place_any g most cap p (some ⟨r, 0, none⟩) i (w.drewN q) c2 h1 h2 hi hp)
  obtain ⟨v, cv⟩ : ∃ v, w.cell? ⟨r, p, none⟩ = some v := ⟨cs[p]'(by omega), by rw [hb.cell]; exact Array.getElem?_eq_getElem (by omega)⟩
  have fv := hb.free p
  clear hi hp hb hcs
  go_enter Try.func36, Try.ntmps36
  go_wp2
  go_region_with (first | (go_at_call 44; refine (hpl.out _).mono ?_; rintro e w' ⟨rfl, rfl⟩) | fail)
  all_goals
    go_wp2
    exact bodyPost_end (results_none rfl _ _ _) rfl ⟨rfl, 1, rfl⟩
/-! ## First, Next, Len -/
theorem first_any (g r most first : Nat) (vs : List Int) (w : World) (h : Rg w g r most first vs) :
    Calls Try.prog 21 #[.pointer (some ⟨g, 0, none⟩)] w fun e w' => e = .returned (.int .u64 (first : Int)) ∧ w = w' := by
  have hn := Lib.hid (none_no g r most first vs w h)
  have c0 := h.c0
  clear h
  go_enter Try.func21, Try.ntmps21
  go_wp2_with (go_at_call 30; refine hn.out.mono ?_; rintro e w' ⟨rfl, rfl⟩)
  go_ret
  exact ⟨rfl, rfl⟩
theorem first_none (v : Option Addr) (w : World) (h : NoR w v) :
    Calls Try.prog 21 #[.pointer v] w fun e w' => e = .returned (.int .u64 0) ∧ w = w' := by
  have hn := Lib.hid (none_yes v w h)
  clear h
  go_enter Try.func21, Try.ntmps21
  go_wp2_with (go_at_call 30; refine hn.out.mono ?_; rintro e w' ⟨rfl, rfl⟩)
  go_ret
  exact ⟨rfl, rfl⟩
theorem next_any (g r most first n : Nat) (vs : List Int) (w : World) (h : Rg w g r most first vs) (hn : first + vs.length = n) :
    Calls Try.prog 22 #[.pointer (some ⟨g, 0, none⟩)] w fun e w' => e = .returned (.int .u64 (n : Int)) ∧ w = w' := by
  have hno := Lib.hid (none_no g r most first vs w h)
  have c1 := h.c1
  rw [hn] at c1
  clear h hn
  go_enter Try.func22, Try.ntmps22
  go_wp2_with (go_at_call 30; refine hno.out.mono ?_; rintro e w' ⟨rfl, rfl⟩)
  go_ret
  exact ⟨rfl, rfl⟩
theorem next_none (v : Option Addr) (w : World) (h : NoR w v) :
    Calls Try.prog 22 #[.pointer v] w fun e w' => e = .returned (.int .u64 0) ∧ w = w' := by
  have hn := Lib.hid (none_yes v w h)
  clear h
  go_enter Try.func22, Try.ntmps22
  go_wp2_with (go_at_call 30; refine hn.out.mono ?_; rintro e w' ⟨rfl, rfl⟩)
  go_ret
  exact ⟨rfl, rfl⟩
theorem len_any (g r most first : Nat) (vs : List Int) (w : World) (h : Rg w g r most first vs) :
    Calls Try.prog 23 #[.pointer (some ⟨g, 0, none⟩)] w fun e w' => e = .returned (.int .i64 (vs.length : Int)) ∧ ∃ q, w' = w.drewN q := by
  have hn := Lib.hid (none_no g r most first vs w h)
  have hc := Lib.hid (count_any g r most first vs w h)
  obtain ⟨cap, c2⟩ := h.c2
  clear h
  go_enter Try.func23, Try.ntmps23
  go_wp2_with (first | (go_at_call 30; refine hn.out.mono ?_; rintro e w' ⟨rfl, rfl⟩) | (go_at_call 34; refine hc.out.mono ?_; rintro e w' ⟨rfl, q, rfl⟩))
  go_ret
  exact ⟨rfl, q, rfl⟩
theorem len_none (v : Option Addr) (w : World) (h : NoR w v) :
    Calls Try.prog 23 #[.pointer v] w fun e w' => e = .returned (.int .i64 0) ∧ w = w' := by
  have hn := Lib.hid (none_yes v w h)
  clear h
  go_enter Try.func23, Try.ntmps23
  go_wp2_with (go_at_call 30; refine hn.out.mono ?_; rintro e w' ⟨rfl, rfl⟩)
  go_ret
  exact ⟨rfl, rfl⟩
end Go.Proofs.Ytajdlkohnafbeaa
