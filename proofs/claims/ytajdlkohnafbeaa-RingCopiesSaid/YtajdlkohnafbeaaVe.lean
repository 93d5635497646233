import Derived.Test.YtajdlkohnafbeaaM
import Derived.Deep.RegionHeld3
namespace Go.Proofs.Ytajdlkohnafbeaa
open Go.RowKit

/-! ## Are two of the document's rings the same? -/
structure SameAt (w : World) (A B : Option Addr) (n c d first most : Nat) (W : World) : Prop where
  b0 : Has W w.heap.size 31 #[.slice A n c, .int .u64 (first : Int), .int .i64 (most : Int)]
  b1 : Has W (w.heap.size + 1) 31 #[.slice B n d, .int .u64 (first : Int), .int .i64 (most : Int)]
  b : Below w.heap.size w W
theorem SameAt.drew {w W : World} {A B : Option Addr} {n c d first most : Nat} (h : SameAt w A B n c d first most W) : SameAt w A B n c d first most W.drew := ⟨h.b0, h.b1, h.b.drew⟩
set_option maxRecDepth 100000 in
set_option maxHeartbeats 2000000 in
theorem refSame_loop (A B : Option Addr) (l l' : List Int) (n c d first most : Nat) (S : Nat → Prop) (w : World) (hp : Fine w S A l c) (hp' : Fine w S B l' d) (hS : ∀ k, S k → k < w.heap.size) (hn : l.length = n) (hm : l'.length = n) (hn4 : n ≤ 4096) :
    Calls Try.prog 14 #[rv A n c first most, rv B n d first most] w fun e w' => e = .returned (.bool (decide (l = l'))) ∧ Below w.heap.size w w' := by
  have b1 : ((first : Int) != (first : Int)) = false := by simp
  have b2 : ((most : Int) != (most : Int)) = false := by simp
  have b3 : ((n : Int) != (n : Int)) = false := by simp
  have hpA := Lib.hid hp.1
  have hpB := Lib.hid hp'.1
  have hS' := Lib.hid hS
  have hn' := Lib.hid hn
  have hm' := Lib.hid hm
  clear hp hp' hS hn hm
  unfold rv
  go_enter Try.func14, Try.ntmps14
  go_wp2
  have k0 := (Has.new w 31 #[.slice A n c, .int .u64 (first : Int), .int .i64 (most : Int)]).alloc (.cells #[.slice B n d, .int .u64 (first : Int), .int .i64 (most : Int)] 31)
  have k1 := Has.new (w.alloc (.cells #[.slice A n c, .int .u64 (first : Int), .int .i64 (most : Int)] 31)) 31 #[.slice B n d, .int .u64 (first : Int), .int .i64 (most : Int)]
  simp only [World.size_alloc] at k1
  have h0 : Hid (SameAt w A B n c d first most _) := ⟨k0, k1, ((Below.refl w.heap.size w).alloc (Nat.le_refl _) _).alloc (by simp) _⟩
  clear k0 k1
  generalize ((w.alloc (.cells #[.slice A n c, .int .u64 (first : Int), .int .i64 (most : Int)] 31)).alloc (.cells #[.slice B n d, .int .u64 (first : Int), .int .i64 (most : Int)] 31)) = w1 at h0 ⊢
  go_loopw [5] (fun i wr => ∃ k : Nat, k ≤ n ∧ i = .int .i64 k ∧ l.take k = l'.take k ∧ SameAt w A B n c d first most wr) (fun i _ => n - (intOf i).toNat)
  case atStart => exact ⟨0, Nat.zero_le _, rfl, rfl, h0.out⟩
  case round =>
    obtain ⟨k, hk, rfl, htk, hat⟩ := hrel
    have hat' := Lib.hid hat
    have htk' := Lib.hid htk
    have e0 : wr.cell? ⟨w.heap.size, 0, none⟩ = some (.slice A n c) := hat.b0.cell 0
    clear hat h0 htk
    by_cases hlt : k < n
    · have hkl : k < l.length := by have := hn'.out; omega
      have hkl' : k < l'.length := by have := hm'.out; omega
      obtain ⟨ab, ao, rfl, hSa, hca⟩ := hpA.out (by omega)
      obtain ⟨bb, bo, rfl, hSb, hcb⟩ := hpB.out (by omega)
      obtain ⟨x, hx⟩ : ∃ x, l[k] = x := ⟨_, rfl⟩
      obtain ⟨y, hy⟩ : ∃ y, l'[k] = y := ⟨_, rfl⟩
      have hB := hat'.out.drew.b
      have x1 : wr.drew.cell? ⟨w.heap.size, 0, none⟩ = some (.slice (some ⟨ab, ao, none⟩) n c) := hat'.out.b0.cell 0
      have x2 : wr.drew.cell? ⟨w.heap.size + 1, 0, none⟩ = some (.slice (some ⟨bb, bo, none⟩) n d) := hat'.out.b1.cell 0
      have x3 : wr.drew.cell? ⟨ab, ao + k, none⟩ = some (.int .i64 x) := (hB.cell (p := ⟨ab, ao + k, none⟩) (hS'.out _ hSa)).trans (hca k x (by rw [List.getElem?_eq_getElem hkl, hx]))
      have x4 : wr.drew.cell? ⟨bb, bo + k, none⟩ = some (.int .i64 y) := (hB.cell (p := ⟨bb, bo + k, none⟩) (hS'.out _ hSb)).trans (hcb k y (by rw [List.getElem?_eq_getElem hkl', hy]))
      have hki : (0 : Int) ≤ (k : Int) := by omega
      have hkn : (k : Int) < (n : Int) := by omega
      have hts : Hid (l.take (k + 1) = l.take k ++ [x]) := by show _ = _; rw [List.take_succ_eq_append_getElem hkl, hx]
      have hts' : Hid (l'.take (k + 1) = l'.take k ++ [y]) := by show _ = _; rw [List.take_succ_eq_append_getElem hkl', hy]
      have hxl : Hid (l[k]? = some x) := by show _ = _; rw [List.getElem?_eq_getElem hkl, hx]
      have hyl : Hid (l'[k]? = some y) := by show _ = _; rw [List.getElem?_eq_getElem hkl', hy]
      clear hB hSa hSb hca hcb hx hy hkl hkl'
      by_cases hxy : x = y
      · subst hxy
        have hq : (x != x) = false := by simp
        go_wp2
        go_region_held3 (fun w' => w'.cell? ⟨w.heap.size, 0, none⟩ = some (.slice (some ⟨ab, ao, none⟩) n c) ∧ w'.cell? ⟨w.heap.size + 1, 0, none⟩ = some (.slice (some ⟨bb, bo, none⟩) n d) ∧ w'.cell? ⟨ab, ao + k, none⟩ = some (.int .i64 x) ∧ w'.cell? ⟨bb, bo + k, none⟩ = some (.int .i64 x))
          (exact ⟨x1, x2, x3, x4⟩) (fail)
        all_goals
          go_wp2
          go_roundw
          case rel => exact ⟨k + 1, by omega, by go_num, by rw [hts.out, hts'.out, htk'.out], hat'.out.drew⟩
          case measure => simp [intOf]; omega
      · have hq : (x != y) = true := by rw [bne_iff_ne]; exact hxy
        have hne : Hid (decide (l = l') = false) := by
          show _ = _
          rw [decide_eq_false_iff_not]
          intro e
          have h1 := hxl.out
          rw [e, hyl.out] at h1
          exact hxy (Option.some.inj h1).symm
        clear hxy
        go_wp2
        go_region_held3 (fun w' => w'.cell? ⟨w.heap.size, 0, none⟩ = some (.slice (some ⟨ab, ao, none⟩) n c) ∧ w'.cell? ⟨w.heap.size + 1, 0, none⟩ = some (.slice (some ⟨bb, bo, none⟩) n d) ∧ w'.cell? ⟨ab, ao + k, none⟩ = some (.int .i64 x) ∧ w'.cell? ⟨bb, bo + k, none⟩ = some (.int .i64 y))
          (exact ⟨x1, x2, x3, x4⟩) (fail)
        all_goals
          go_wp2
          go_ret
          exact ⟨by rw [hne.out]; rfl, hat'.out.drew.b⟩
    · obtain rfl : k = n := by omega
      have he : Hid (decide (l = l') = true) := by
        show _ = _
        rw [decide_eq_true_iff]
        have h1 := htk'.out
        rw [List.take_of_length_le (by have := hn'.out; omega), List.take_of_length_le (by have := hm'.out; omega)] at h1
        exact h1
      go_wp2
      go_ret
      exact ⟨by rw [he.out]; rfl, hat'.out.b⟩
set_option maxRecDepth 100000 in
theorem refSame_any (A B : Option Addr) (l l' : List Int) (n m c d first first' most most' : Nat) (S : Nat → Prop) (w : World) (hp : Fine w S A l c) (hp' : Fine w S B l' d) (hS : ∀ k, S k → k < w.heap.size) (hn : l.length = n) (hm : l'.length = m) (hn4 : n ≤ 4096) :
    Calls Try.prog 14 #[rv A n c first most, rv B m d first' most'] w fun e w' => e = .returned (.bool (decide (first = first' ∧ most = most' ∧ l = l'))) ∧ Below w.heap.size w w' := by
  by_cases h : first = first' ∧ most = most' ∧ n = m
  · obtain ⟨rfl, rfl, rfl⟩ := h
    refine (refSame_loop A B l l' n c d first most S w hp hp' hS hn hm hn4).mono ?_
    rintro e w' ⟨rfl, hb⟩
    exact ⟨by simp, hb⟩
  · have hf : decide (first = first' ∧ most = most' ∧ l = l') = false := by
      rw [decide_eq_false_iff_not]
      rintro ⟨h1, h2, h3⟩
      exact h ⟨h1, h2, by rw [← hn, ← hm, h3]⟩
    rw [hf]
    have hh : first ≠ first' ∨ (first = first' ∧ (most ≠ most' ∨ (most = most' ∧ n ≠ m))) := by
      by_cases h1 : first = first'
      · by_cases h2 : most = most'
        · exact .inr ⟨h1, .inr ⟨h2, fun h3 => h ⟨h1, h2, h3⟩⟩⟩
        · exact .inr ⟨h1, .inl h2⟩
      · exact .inl h1
    clear hp hp' hS h hf hn hm
    unfold rv
    rcases hh with h1 | ⟨rfl, h2 | ⟨rfl, h3⟩⟩
    · have q : ((first : Int) != (first' : Int)) = true := by rw [bne_iff_ne]; omega
      go_enter Try.func14, Try.ntmps14
      go_wp2
      go_ret
      exact ⟨rfl, ((Below.refl w.heap.size w).alloc (Nat.le_refl _) _).alloc (by simp) _⟩
    · have q0 : ((first : Int) != (first : Int)) = false := by simp
      have q : ((most : Int) != (most' : Int)) = true := by rw [bne_iff_ne]; omega
      go_enter Try.func14, Try.ntmps14
      go_wp2
      go_ret
      exact ⟨rfl, ((Below.refl w.heap.size w).alloc (Nat.le_refl _) _).alloc (by simp) _⟩
    · have q0 : ((first : Int) != (first : Int)) = false := by simp
      have q1 : ((most : Int) != (most : Int)) = false := by simp
      have q : ((n : Int) != (m : Int)) = true := by rw [bne_iff_ne]; omega
      go_enter Try.func14, Try.ntmps14
      go_wp2
      go_ret
      exact ⟨rfl, ((Below.refl w.heap.size w).alloc (Nat.le_refl _) _).alloc (by simp) _⟩
end Go.Proofs.Ytajdlkohnafbeaa
