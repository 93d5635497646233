import Derived.Test.YtajdlkohnafbeaaB
import Derived.Test.YtajdlkohnafbeaaS
namespace Go.Proofs.Ytajdlkohnafbeaa
open Go.RowKit

/-! ## New -/
def Made (most first : Nat) (w : World) (e : Ending) (w' : World) : Prop :=
  ∃ g r, e = .returned (.tuple #[.pointer (some ⟨g, 0, none⟩), .int .i64 0]) ∧ Rg w' g r most first [] ∧ w.heap.size ≤ g ∧ w.heap.size ≤ r ∧ Below w.heap.size w w'
theorem two_ret {a b a' b' : Value} (h : a = a') (k : b = b') : Ending.returned (.tuple #[a, b]) = .returned (.tuple #[a', b']) := by rw [h, k]
theorem info64 : (Try.prog.info? 3).map (fun i => (i.zero, i.size, i.bytes)) = some (some (.int .i64 0), 1, 8) := by kernel_rfl
theorem made (n : Nat) : madeCells #[.int .i64 0] n = (ints (List.replicate n 0)).toArray := by
  apply Array.ext
  · simp [madeCells, ints]
  · intro i h1 h2
    simp [madeCells, ints, Nat.mod_one]
theorem new_no (most : Int) (first : Nat) (w : World) (hr : most < 1 ∨ 4096 < most) :
    Calls Try.prog 8 #[.int .i64 most, .int .u64 (first : Int)] w fun e w' => e = .returned (.tuple #[.pointer none, .int .i64 2]) ∧ w = w' := by
  rcases hr with h0 | h0
  · go_enter Try.func8, Try.ntmps8
    go_wp2
    refine wp_scope_on 0 rfl ?_
    go_wp2
    go_step3
    refine ⟨rfl, ?_⟩
    go_wp2
    rw [Exit.noGoto_ret]
    go_ret2
    exact ⟨rfl, rfl⟩
  · have h1 : 1 ≤ most := by omega
    go_enter Try.func8, Try.ntmps8
    go_wp2
    refine wp_scope_on 0 rfl ?_
    go_wp2
    go_step3
    refine ⟨rfl, ?_⟩
    go_wp2
    rw [Exit.noGoto_ret]
    go_ret2
    exact ⟨rfl, rfl⟩
theorem new_ok (most first : Nat) (w : World) (h1 : 1 ≤ most) (h2 : most ≤ 4096) (hf : first ≤ 18446744073709551615) :
    Calls Try.prog 8 #[.int .i64 (most : Int), .int .u64 (first : Int)] w (Made most first w) := by
  have hmk := fun w => run_make_row' (P := Try.prog) 29 3 (.int .i64 0) 8 Try.underlying29 info64 rfl .i64 .i64 most (by omega) (by omega) w
  go_enter Try.func8, Try.ntmps8
  go_wp2
  refine wp_scope_on 0 rfl ?_
  go_wp2
  rw [jump_ret]
  go_ret2
  have hm : (w.alloc (.cells (madeCells #[.int .i64 0] most) 3)).heap.size = w.heap.size + 1 := by simp
  refine ⟨w.heap.size + 1, w.heap.size, rfl, ⟨most, (ints (List.replicate most 0)).toArray, List.replicate most 0, ?_⟩, by omega, Nat.le_refl _, ((Below.refl _ _).alloc (Nat.le_refl _) _).alloc (by simp) _⟩
  have hh := Has.new (w.alloc (.cells (madeCells #[.int .i64 0] most) 3)) 50 #[.int .u64 (first : Int), .int .u64 (first : Int), .slice (some ⟨w.heap.size, 0, none⟩) most most]
  have hb := (Has.new w 3 (madeCells #[.int .i64 0] most)).alloc (.cells #[.int .u64 (first : Int), .int .u64 (first : Int), .slice (some ⟨w.heap.size, 0, none⟩) most most] 50)
  rw [hm] at hh
  rw [made] at hb hh ⊢
  exact ⟨hh, hb, fun j h => by have : j < most := by simpa using h
                               simp [ints, this], by simp, fun i hi => absurd hi (by simp), h1, h2, by simp, by simpa using hf⟩
/-! ## Drop, Get, Set -/
theorem drop_none (v : Option Addr) (w : World) (h : NoR w v) :
    Calls Try.prog 17 #[.pointer v] w fun e w' => e = .returned (.tuple #[.int .i64 0, .bool false]) ∧ w = w' := by
  have hn := Lib.hid (len_none v w h)
  clear h
  go_enter Try.func17, Try.ntmps17
  go_wp2_with (go_at_call 23; refine hn.out.mono ?_; rintro e w' ⟨rfl, rfl⟩)
  go_ret2
  exact ⟨rfl, rfl⟩
theorem drop_empty (g r most first : Nat) (w : World) (h : Rg w g r most first []) :
    Calls Try.prog 17 #[.pointer (some ⟨g, 0, none⟩)] w fun e w' => e = .returned (.tuple #[.int .i64 0, .bool false]) ∧ ∃ q, w' = w.drewN q := by
  have hn := Lib.hid (len_any g r most first [] w h)
  clear h
  go_enter Try.func17, Try.ntmps17
  go_wp2_with (go_at_call 23; refine hn.out.mono ?_; rintro e w' ⟨rfl, q, rfl⟩)
  go_ret2
  exact ⟨rfl, q, rfl⟩
theorem add_mod_succ (first i : Nat) : first + 1 + i = first + (i + 1) := by omega
theorem drop_any (g r most first : Nat) (v : Int) (vs : List Int) (w : World) (h : Rg w g r most first (v :: vs)) :
    Calls Try.prog 17 #[.pointer (some ⟨g, 0, none⟩)] w fun e w' => e = .returned (.tuple #[.int .i64 v, .bool true]) ∧ Rg w' g r most (first + 1) vs ∧ Turn g r w w' ∧ w'.heap.size = w.heap.size := by
  have hn := Lib.hid (len_any g r most first (v :: vs) w h)
  have hnum := h.num
  obtain ⟨cap, cs, row, hat⟩ := h
  have hat' := Lib.hid hat
  have hl : (((v :: vs).length : Nat) : Int) = ((vs.length + 1 : Nat) : Int) := rfl
  rw [hl] at hn
  simp only [List.length_cons] at hnum
  have hne : ((vs.length + 1 : Nat) : Int) ≠ 0 := by omega
  have hne2 : (((vs.length : Nat) : Int) + 1 == 0) = false := by rw [beq_eq_false_iff_ne]; omega
  have hsh := Lib.hid (fun q => shorten_any g first _ _ (w.drewN q) hat.head (by omega))
  have hval := Lib.hid (fun q => value_any g r most cap (first % most) first v (((w.drewN q).setCell ⟨g, 0, none⟩ (.int .u64 ((first + 1 : Nat) : Int))).drew) ((hat.head.put 0 (.int .u64 ((first + 1 : Nat) : Int))).cell 2) hat.pos hat.top (by omega) rfl ((World.cell?_of_block (Below.heap_setCell w ⟨g, 0, none⟩ (.int .u64 ((first + 1 : Nat) : Int)) r hat.ne.symm)).trans (hat.here (i := 0) (by simp))))
  clear hat hl
  go_enter Try.func17, Try.ntmps17
  go_wp2_with (first | (go_at_call 23; refine hn.out.mono ?_; rintro e w' ⟨rfl, q, rfl⟩) | (go_at_call 37; refine (hsh.out q).mono ?_; rintro e w' ⟨rfl, rfl⟩) | (go_at_call 32; refine (hval.out q).mono ?_; rintro e w' ⟨rfl, q2, rfl⟩))
  go_ret2
  have h0 := hat'.out
  refine ⟨rfl, ⟨cap, cs, row, ⟨?_, (Below.heap_setCell w ⟨g, 0, none⟩ _ r h0.ne.symm).trans h0.body, h0.cells, h0.len, fun i hi => ?_, h0.pos, h0.top, by omega, by omega⟩⟩, ⟨rfl, rfl, rfl, by simp [World.setCell], fun k _ hk _ => Below.heap_setCell w ⟨g, 0, none⟩ _ k hk⟩, by simp [World.setCell]⟩
  · have := h0.head.put 0 (.int .u64 ((first + 1 : Nat) : Int))
    rw [show first + 1 + vs.length = first + (v :: vs).length by simp; omega]
    exact this
  · have := h0.at_ (i + 1) (by simp; omega)
    rw [show first + 1 + i = first + (i + 1) by omega]
    simpa using this
theorem get_none (v : Option Addr) (i : Nat) (w : World) (h : NoR w v) :
    Calls Try.prog 18 #[.pointer v, .int .u64 (i : Int)] w fun e w' => e = .returned (.tuple #[.int .i64 0, .bool false]) ∧ w = w' := by
  have hn := Lib.hid (none_yes v w h)
  clear h
  go_enter Try.func18, Try.ntmps18
  go_wp2_with (go_at_call 30; refine hn.out.mono ?_; rintro e w' ⟨rfl, rfl⟩)
  go_ret2
  exact ⟨rfl, rfl⟩
/-- What Get tells: the value, and whether it is there. -/
def got (first : Nat) (vs : List Int) (i : Nat) : Int × Bool := if first ≤ i then (match vs[i - first]? with | some z => (z, true) | none => (0, false)) else (0, false)
theorem got_no {first : Nat} {vs : List Int} {i : Nat} (h : ¬ (first ≤ i ∧ i < first + vs.length)) : got first vs i = (0, false) := by
  unfold got
  split
  · rw [List.getElem?_eq_none (by omega)]
  · rfl
theorem got_yes {first : Nat} {vs : List Int} {i : Nat} (h1 : first ≤ i) (h2 : i - first < vs.length) : got first vs i = (vs[i - first], true) := by
  unfold got
  rw [if_pos h1, List.getElem?_eq_getElem h2]
theorem get_any (g r most first i : Nat) (vs : List Int) (w : World) (h : Rg w g r most first vs) (hi : i ≤ 18446744073709551615) :
    Calls Try.prog 18 #[.pointer (some ⟨g, 0, none⟩), .int .u64 (i : Int)] w fun e w' => e = .returned (.tuple #[.int .i64 (got first vs i).1, .bool (got first vs i).2]) ∧ ∃ q, w' = w.drewN q := by
  have hn := Lib.hid (none_no g r most first vs w h)
  have hh := holds_any g r most first vs i w h
  by_cases hin : first ≤ i ∧ i < first + vs.length
  · rw [decide_eq_true hin] at hh
    have hh' := Lib.hid hh
    have hgot := Lib.hid (got_yes (vs := vs) hin.1 (by omega))
    obtain ⟨cap, cs, row, hat⟩ := h
    have he := hat.here (i := i - first) (by omega)
    rw [show first + (i - first) = i by omega] at he
    have hval := Lib.hid (value_any g r most cap (i % most) i (vs[i - first]'(by omega)) w (hat.head.cell 2) hat.pos hat.top hi rfl he)
    generalize (vs[i - first]'(by omega)) = z at hgot hval
    have c2 := hat.head.cell 2
    simp at c2
    clear hh hin he hat hi
    go_enter Try.func18, Try.ntmps18
    go_wp2_with (first | (go_at_call 30; refine hn.out.mono ?_; rintro e w' ⟨rfl, rfl⟩) | (go_at_call 38; refine hh'.out.mono ?_; rintro e w' ⟨rfl, rfl⟩) | (go_at_call 32; refine hval.out.mono ?_; rintro e w' ⟨rfl, q, rfl⟩))
    go_ret2
    exact ⟨by rw [hgot.out]; rfl, q, rfl⟩
  · rw [decide_eq_false hin] at hh
    have hh' := Lib.hid hh
    have hgot := Lib.hid (got_no hin)
    obtain ⟨cap, c2⟩ := h.c2
    clear hh hin h hi
    go_enter Try.func18, Try.ntmps18
    go_wp2_with (first | (go_at_call 30; refine hn.out.mono ?_; rintro e w' ⟨rfl, rfl⟩) | (go_at_call 38; refine hh'.out.mono ?_; rintro e w' ⟨rfl, rfl⟩))
    go_ret2
    exact ⟨by rw [hgot.out]; rfl, 0, rfl⟩
end Go.Proofs.Ytajdlkohnafbeaa
