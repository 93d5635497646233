import Derived.Test.YtajdlkohnafbeaaT
namespace Go.Proofs.Ytajdlkohnafbeaa
open Go.RowKit

/-! ## Set by both -/
theorem set_both (A : Option Addr) (l : List Int) (n c first most i : Nat) (x : Int) (S : Nat → Prop) (hn : l.length = n) (hn2 : n ≤ 4096) (hi : i ≤ 18446744073709551615) :
    ∃ (v : Int) (had : Bool) (l' : List Int),
      (∀ w, Fine w S A l c → (∀ k, S k → k < w.heap.size) → Calls Try.prog 26 #[rv A n c first most, .int .u64 (i : Int), .int .i64 x] w fun e w' => ∃ B d, e = .returned (.tuple #[rv B l'.length d first most, .int .i64 v, .bool had]) ∧ Fine w' (fun k => S k ∨ (w.heap.size ≤ k ∧ k < w'.heap.size)) B l' d ∧ Below w.heap.size w w') ∧
      (∀ g r w, Rg w g r most first l → Calls Try.prog 19 #[.pointer (some ⟨g, 0, none⟩), .int .u64 (i : Int), .int .i64 x] w fun e w' => e = .returned (.tuple #[.int .i64 v, .bool had]) ∧ Rg w' g r most first l' ∧ Turn g r w w' ∧ w'.heap.size = w.heap.size) :=
  ⟨(got first l i).1, (got first l i).2, setv first l i x, fun w hp hS => refSet_any A l n c first most i x S w hp hS hn hn2 hi, fun g r w h => set_any g r most first i l x w h hi⟩
set_option maxRecDepth 100000 in
set_option maxHeartbeats 4000000 in
theorem act_set (X : Nat → Prop) (g r most first : Nat) (l : List Int) (n : Nat) (A : Option Addr) (c : Nat) (what val : Int) (far : Nat) (w : World) (h : Rg w g r most first l) (hn : l.length = n) (hp : Fine w (OffX X w g r) A l c) (hX : ∀ k, X k → k < w.heap.size) (hw : what = 5) :
    Calls Try.prog 11 #[.pointer (some ⟨g, 0, none⟩), rv A n c first most, .agg #[.int .i64 what, .int .i64 val, .int .u64 (far : Int)]] w (Acted X g r most w) := by
  have hnum := h.num
  have hlastf : first ≤ 18446744073709551615 := by omega
  obtain ⟨i, hi⟩ : ∃ i, (if far < 100 ∧ first < 9223372036854775808 then first - min first 2 + far else first) = i := ⟨_, rfl⟩
  have hib : i ≤ 18446744073709551615 := by rw [← hi]; split <;> omega
  obtain ⟨v, had, l', href, hput⟩ := set_both A l n c first most i val (OffX X w g r) hn (by omega) hib
  have href' := Lib.hid href
  have hput' := Lib.hid hput
  have hp' := Lib.hid hp
  have h' := Lib.hid h
  have hlt := Lib.hid h.lt
  have hX' := Lib.hid hX
  clear href hput hp h hnum hX hn hib
  unfold rv at href' ⊢
  have q0 : (what == 0) = false := by rw [beq_eq_false_iff_ne]; omega
  have q1 : (what == 1) = false := by rw [beq_eq_false_iff_ne]; omega
  have q2 : (what == 2) = false := by rw [beq_eq_false_iff_ne]; omega
  have q3 : (what == 3) = false := by rw [beq_eq_false_iff_ne]; omega
  have q4 : (what == 4) = false := by rw [beq_eq_false_iff_ne]; omega
  have q5 : (what == 5) = true := by rw [beq_iff_eq]; omega
  clear hw
  by_cases hc : far < 100 ∧ first < 9223372036854775808
  · rw [if_pos hc] at hi
    have hc1 : (far : Int) < 100 := by omega
    have hc2 : (first : Int) < 9223372036854775808 := by omega
    have hidx := Lib.hid (show (first : Int) - min (first : Int) 2 + (far : Int) = (i : Int) by omega)
    clear hc hi hlastf
    go_enter Try.func11, Try.ntmps11
    go_wp2_with fail
    obtain ⟨hbx, hB⟩ := boxes_new w A n c first most what val far
    generalize (((w.alloc (.cells #[.slice A n c, .int .u64 (first : Int), .int .i64 (most : Int)] 31)).alloc (.cells #[.int .i64 what, .int .i64 val, .int .u64 (far : Int)] 38)).alloc (.cells #[.slice none 0 0, .int .u64 0, .int .i64 0] 31)) = w1 at hbx hB ⊢
    rw [hidx.out]
    refine (href'.out w1 (hp'.out.kept (Kept.below hB (fun k hk => hk.1))) (fun k hk => Nat.lt_of_lt_of_le hk.1 hB.size)).mono ?_
    rintro e w2 ⟨PB, pb, rfl, hF, hB2⟩
    have hbx2 := Lib.hid (hbx.below hB2)
    have hB3 := Lib.hid (hB.trans (hB2.mono hB.size))
    have hF' := Lib.hid hF
    have c11 : w2.cell? ⟨w.heap.size + 1, 1, none⟩ = some (.int .i64 val) := hbx2.out.b1.cell 1
    have hlt2 : w.heap.size + 1 < w2.heap.size := by have := hbx2.out.size; omega
    have hz1 := Lib.hid (And.intro hbx.size hB2.size)
    clear hbx hB hB2 hF
    go_wp2_with fail
    have kb := Has.new w2 31 #[.slice PB l'.length pb, .int .u64 (first : Int), .int .i64 (most : Int)]
    have hba := (Below.refl w2.heap.size w2).alloc (Nat.le_refl _) (.cells #[.slice PB l'.length pb, .int .u64 (first : Int), .int .i64 (most : Int)] 31)
    have hz3 : (w2.alloc (.cells #[.slice PB l'.length pb, .int .u64 (first : Int), .int .i64 (most : Int)] 31)).heap.size = w2.heap.size + 1 := by simp
    generalize w2.alloc (.cells #[.slice PB l'.length pb, .int .u64 (first : Int), .int .i64 (most : Int)] 31) = w3 at kb hba hz3 ⊢
    have hbx3 := Lib.hid (hbx2.out.below hba)
    have hB4 := Lib.hid (hB3.out.trans (hba.mono hB3.out.size))
    have hF3 := Lib.hid (hF'.out.kept (Kept.below hba (fun k hk => by rcases hk with hk | hk; exact Nat.lt_of_lt_of_le hk.1 hB3.out.size; exact hk.2)))
    have hz2 := Lib.hid hbx2.out.size
    clear hbx2 hB3 hF' hlt2 hba
    refine (hput'.out g r w3 (h'.out.below hB4.out)).mono ?_
    rintro e w4 ⟨rfl, hR4, hT4, hz4⟩
    have hg1 := hlt.out.1
    have hr1 := hlt.out.2
    have hz5 := hz2.out
    have hneg : w2.heap.size ≠ g ∧ w2.heap.size ≠ r := by constructor <;> omega
    have kb4 : Has w4.drew w2.heap.size _ _ := (hT4.block _ kb.lt hneg.1 hneg.2).trans kb
    have hbx4 := Lib.hid (hbx3.out.turn hT4 hg1 hr1)
    have hT5 := Lib.hid ((turn_of_below hB4.out).trans hT4)
    have hF4 := Lib.hid (hF3.out.kept (fun k hk => by
      rcases hk with hk | hk
      · exact hT4.block k (Nat.lt_of_lt_of_le hk.1 hB4.out.size) hk.2.1 hk.2.2.1
      · exact hT4.block k (by have := hk.2; omega) (by have := hk.1; have := hz1.out.1; omega) (by have := hk.1; have := hz1.out.1; omega)))
    have hR4' := Lib.hid hR4
    have hz4' := Lib.hid hz4
    have e0 : w4.drew.cell? ⟨w2.heap.size, 0, none⟩ = some (.slice PB l'.length pb) := kb4.cell 0
    have e1 : w4.drew.cell? ⟨w2.heap.size, 1, none⟩ = some (.int .u64 (first : Int)) := kb4.cell 1
    have e2 : w4.drew.cell? ⟨w2.heap.size, 2, none⟩ = some (.int .i64 (most : Int)) := kb4.cell 2
    have d0 : w4.cell? ⟨w.heap.size + 1 + 1, 0, none⟩ = some (.slice none 0 0) := hbx4.out.b2.cell 0
    have d1 : w4.cell? ⟨w.heap.size + 1 + 1, 1, none⟩ = some (.int .u64 0) := hbx4.out.b2.cell 1
    have d2 : w4.cell? ⟨w.heap.size + 1 + 1, 2, none⟩ = some (.int .i64 0) := hbx4.out.b2.cell 2
    have f0 : w4.frozen? ⟨w.heap.size + 1 + 1, 0, none⟩ = false := hbx4.out.b2.free 0
    have f1 : w4.frozen? ⟨w.heap.size + 1 + 1, 1, none⟩ = false := hbx4.out.b2.free 1
    have f2 : w4.frozen? ⟨w.heap.size + 1 + 1, 2, none⟩ = false := hbx4.out.b2.free 2
    have hne : w2.heap.size ≠ w.heap.size + 1 + 1 := by omega
    have honly : Hid (∀ u0 u1 u2, Only (w.heap.size + 1 + 1) w4 (((w4.setCell ⟨w.heap.size + 1 + 1, 0, none⟩ u0).setCell ⟨w.heap.size + 1 + 1, 1, none⟩ u1).setCell ⟨w.heap.size + 1 + 1, 2, none⟩ u2)) := fun u0 u1 u2 => (fill3 hbx4.out.b2 u0 u1 u2).2.2.2
    clear hF3 hbx3 hR4 kb kb4 hT4 hz4
    go_wp2
    go_region_held3 (fun w' => w'.cell? ⟨w2.heap.size, 0, none⟩ = some (.slice PB l'.length pb) ∧ w'.cell? ⟨w2.heap.size, 1, none⟩ = some (.int .u64 (first : Int)) ∧ w'.cell? ⟨w2.heap.size, 2, none⟩ = some (.int .i64 (most : Int)))
      (first | exact ⟨e0, e1, e2⟩ | exact ⟨(World.cell?_of_block (a := ⟨w2.heap.size, 0, none⟩) ((honly.out _ _ _).block w2.heap.size hne)).trans e0, (World.cell?_of_block (a := ⟨w2.heap.size, 1, none⟩) ((honly.out _ _ _).block w2.heap.size hne)).trans e1, (World.cell?_of_block (a := ⟨w2.heap.size, 2, none⟩) ((honly.out _ _ _).block w2.heap.size hne)).trans e2⟩)
      (first | (go_at_call 10; refine (num_any _ _).mono ?_; rintro e w' ⟨rfl, rfl⟩) | fail)
    all_goals
      go_wp2
      obtain ⟨x0, x1, x2, _⟩ := fill3 hbx4.out.b2 (.slice PB l'.length pb) (.int .u64 (first : Int)) (.int .i64 (most : Int))
      refine bodyPost_ret (v := .tuple #[.pointer (some ⟨g, 0, none⟩), .agg #[.slice PB l'.length pb, .int .u64 (first : Int), .int .i64 (most : Int)], .bool true]) (by simp [results, Try.results11, go_sem, x0, x1, x2]) rfl ?_
      have hsz := hT5.out.size
      have hz6 := hz1.out
      have hz7 := hz4'.out
      refine Acted.drew (acted_of hbx4.out hT5.out _ _ _ hR4'.out (hF4.out.mono ?_) (.inl ⟨rfl, rfl⟩) (by omega) (by omega) rfl)
      intro k hk
      rcases hk with hk | hk
      · have hk1 := hk.1
        exact ⟨⟨by omega, hk.2⟩, by omega⟩
      · exact ⟨⟨by omega, by omega, by omega, fun hx => by have := hX'.out k hx; omega⟩, by omega⟩
  · rw [if_neg hc] at hi
    subst hi
    by_cases hf : far < 100
    · have hc1 : (far : Int) < 100 := by omega
      have hc2 : decide ((first : Int) < 9223372036854775808) = false := decide_eq_false (by omega)
      have hc3 : decide (first < 9223372036854775808) = false := decide_eq_false (by omega)
      clear hc hf hlastf
      go_enter Try.func11, Try.ntmps11
      go_wp2_with fail
      obtain ⟨hbx, hB⟩ := boxes_new w A n c first most what val far
      generalize (((w.alloc (.cells #[.slice A n c, .int .u64 (first : Int), .int .i64 (most : Int)] 31)).alloc (.cells #[.int .i64 what, .int .i64 val, .int .u64 (far : Int)] 38)).alloc (.cells #[.slice none 0 0, .int .u64 0, .int .i64 0] 31)) = w1 at hbx hB ⊢
      refine (href'.out w1 (hp'.out.kept (Kept.below hB (fun k hk => hk.1))) (fun k hk => Nat.lt_of_lt_of_le hk.1 hB.size)).mono ?_
      rintro e w2 ⟨PB, pb, rfl, hF, hB2⟩
      have hbx2 := Lib.hid (hbx.below hB2)
      have hB3 := Lib.hid (hB.trans (hB2.mono hB.size))
      have hF' := Lib.hid hF
      have c11 : w2.cell? ⟨w.heap.size + 1, 1, none⟩ = some (.int .i64 val) := hbx2.out.b1.cell 1
      have hlt2 : w.heap.size + 1 < w2.heap.size := by have := hbx2.out.size; omega
      have hz1 := Lib.hid (And.intro hbx.size hB2.size)
      clear hbx hB hB2 hF
      go_wp2_with fail
      have kb := Has.new w2 31 #[.slice PB l'.length pb, .int .u64 (first : Int), .int .i64 (most : Int)]
      have hba := (Below.refl w2.heap.size w2).alloc (Nat.le_refl _) (.cells #[.slice PB l'.length pb, .int .u64 (first : Int), .int .i64 (most : Int)] 31)
      have hz3 : (w2.alloc (.cells #[.slice PB l'.length pb, .int .u64 (first : Int), .int .i64 (most : Int)] 31)).heap.size = w2.heap.size + 1 := by simp
      generalize w2.alloc (.cells #[.slice PB l'.length pb, .int .u64 (first : Int), .int .i64 (most : Int)] 31) = w3 at kb hba hz3 ⊢
      have hbx3 := Lib.hid (hbx2.out.below hba)
      have hB4 := Lib.hid (hB3.out.trans (hba.mono hB3.out.size))
      have hF3 := Lib.hid (hF'.out.kept (Kept.below hba (fun k hk => by rcases hk with hk | hk; exact Nat.lt_of_lt_of_le hk.1 hB3.out.size; exact hk.2)))
      have hz2 := Lib.hid hbx2.out.size
      clear hbx2 hB3 hF' hlt2 hba
      refine (hput'.out g r w3 (h'.out.below hB4.out)).mono ?_
      rintro e w4 ⟨rfl, hR4, hT4, hz4⟩
      have hg1 := hlt.out.1
      have hr1 := hlt.out.2
      have hz5 := hz2.out
      have hneg : w2.heap.size ≠ g ∧ w2.heap.size ≠ r := by constructor <;> omega
      have kb4 : Has w4.drew w2.heap.size _ _ := (hT4.block _ kb.lt hneg.1 hneg.2).trans kb
      have hbx4 := Lib.hid (hbx3.out.turn hT4 hg1 hr1)
      have hT5 := Lib.hid ((turn_of_below hB4.out).trans hT4)
      have hF4 := Lib.hid (hF3.out.kept (fun k hk => by
        rcases hk with hk | hk
        · exact hT4.block k (Nat.lt_of_lt_of_le hk.1 hB4.out.size) hk.2.1 hk.2.2.1
        · exact hT4.block k (by have := hk.2; omega) (by have := hk.1; have := hz1.out.1; omega) (by have := hk.1; have := hz1.out.1; omega)))
      have hR4' := Lib.hid hR4
      have hz4' := Lib.hid hz4
      have e0 : w4.drew.cell? ⟨w2.heap.size, 0, none⟩ = some (.slice PB l'.length pb) := kb4.cell 0
      have e1 : w4.drew.cell? ⟨w2.heap.size, 1, none⟩ = some (.int .u64 (first : Int)) := kb4.cell 1
      have e2 : w4.drew.cell? ⟨w2.heap.size, 2, none⟩ = some (.int .i64 (most : Int)) := kb4.cell 2
      have d0 : w4.cell? ⟨w.heap.size + 1 + 1, 0, none⟩ = some (.slice none 0 0) := hbx4.out.b2.cell 0
      have d1 : w4.cell? ⟨w.heap.size + 1 + 1, 1, none⟩ = some (.int .u64 0) := hbx4.out.b2.cell 1
      have d2 : w4.cell? ⟨w.heap.size + 1 + 1, 2, none⟩ = some (.int .i64 0) := hbx4.out.b2.cell 2
      have f0 : w4.frozen? ⟨w.heap.size + 1 + 1, 0, none⟩ = false := hbx4.out.b2.free 0
      have f1 : w4.frozen? ⟨w.heap.size + 1 + 1, 1, none⟩ = false := hbx4.out.b2.free 1
      have f2 : w4.frozen? ⟨w.heap.size + 1 + 1, 2, none⟩ = false := hbx4.out.b2.free 2
      have hne : w2.heap.size ≠ w.heap.size + 1 + 1 := by omega
      have honly : Hid (∀ u0 u1 u2, Only (w.heap.size + 1 + 1) w4 (((w4.setCell ⟨w.heap.size + 1 + 1, 0, none⟩ u0).setCell ⟨w.heap.size + 1 + 1, 1, none⟩ u1).setCell ⟨w.heap.size + 1 + 1, 2, none⟩ u2)) := fun u0 u1 u2 => (fill3 hbx4.out.b2 u0 u1 u2).2.2.2
      clear hF3 hbx3 hR4 kb kb4 hT4 hz4
      go_wp2
      go_region_held3 (fun w' => w'.cell? ⟨w2.heap.size, 0, none⟩ = some (.slice PB l'.length pb) ∧ w'.cell? ⟨w2.heap.size, 1, none⟩ = some (.int .u64 (first : Int)) ∧ w'.cell? ⟨w2.heap.size, 2, none⟩ = some (.int .i64 (most : Int)))
        (first | exact ⟨e0, e1, e2⟩ | exact ⟨(World.cell?_of_block (a := ⟨w2.heap.size, 0, none⟩) ((honly.out _ _ _).block w2.heap.size hne)).trans e0, (World.cell?_of_block (a := ⟨w2.heap.size, 1, none⟩) ((honly.out _ _ _).block w2.heap.size hne)).trans e1, (World.cell?_of_block (a := ⟨w2.heap.size, 2, none⟩) ((honly.out _ _ _).block w2.heap.size hne)).trans e2⟩)
        (first | (go_at_call 10; refine (num_any _ _).mono ?_; rintro e w' ⟨rfl, rfl⟩) | fail)
      all_goals
        go_wp2
        obtain ⟨x0, x1, x2, _⟩ := fill3 hbx4.out.b2 (.slice PB l'.length pb) (.int .u64 (first : Int)) (.int .i64 (most : Int))
        refine bodyPost_ret (v := .tuple #[.pointer (some ⟨g, 0, none⟩), .agg #[.slice PB l'.length pb, .int .u64 (first : Int), .int .i64 (most : Int)], .bool true]) (by simp [results, Try.results11, go_sem, x0, x1, x2]) rfl ?_
        have hsz := hT5.out.size
        have hz6 := hz1.out
        have hz7 := hz4'.out
        refine Acted.drew (acted_of hbx4.out hT5.out _ _ _ hR4'.out (hF4.out.mono ?_) (.inl ⟨rfl, rfl⟩) (by omega) (by omega) rfl)
        intro k hk
        rcases hk with hk | hk
        · have hk1 := hk.1
          exact ⟨⟨by omega, hk.2⟩, by omega⟩
        · exact ⟨⟨by omega, by omega, by omega, fun hx => by have := hX'.out k hx; omega⟩, by omega⟩
    · have hc1 : (100 : Int) ≤ (far : Int) := by omega
      clear hc hf hlastf
      go_enter Try.func11, Try.ntmps11
      go_wp2_with fail
      obtain ⟨hbx, hB⟩ := boxes_new w A n c first most what val far
      generalize (((w.alloc (.cells #[.slice A n c, .int .u64 (first : Int), .int .i64 (most : Int)] 31)).alloc (.cells #[.int .i64 what, .int .i64 val, .int .u64 (far : Int)] 38)).alloc (.cells #[.slice none 0 0, .int .u64 0, .int .i64 0] 31)) = w1 at hbx hB ⊢
      refine (href'.out w1 (hp'.out.kept (Kept.below hB (fun k hk => hk.1))) (fun k hk => Nat.lt_of_lt_of_le hk.1 hB.size)).mono ?_
      rintro e w2 ⟨PB, pb, rfl, hF, hB2⟩
      have hbx2 := Lib.hid (hbx.below hB2)
      have hB3 := Lib.hid (hB.trans (hB2.mono hB.size))
      have hF' := Lib.hid hF
      have c11 : w2.cell? ⟨w.heap.size + 1, 1, none⟩ = some (.int .i64 val) := hbx2.out.b1.cell 1
      have hlt2 : w.heap.size + 1 < w2.heap.size := by have := hbx2.out.size; omega
      have hz1 := Lib.hid (And.intro hbx.size hB2.size)
      clear hbx hB hB2 hF
      go_wp2_with fail
      have kb := Has.new w2 31 #[.slice PB l'.length pb, .int .u64 (first : Int), .int .i64 (most : Int)]
      have hba := (Below.refl w2.heap.size w2).alloc (Nat.le_refl _) (.cells #[.slice PB l'.length pb, .int .u64 (first : Int), .int .i64 (most : Int)] 31)
      have hz3 : (w2.alloc (.cells #[.slice PB l'.length pb, .int .u64 (first : Int), .int .i64 (most : Int)] 31)).heap.size = w2.heap.size + 1 := by simp
      generalize w2.alloc (.cells #[.slice PB l'.length pb, .int .u64 (first : Int), .int .i64 (most : Int)] 31) = w3 at kb hba hz3 ⊢
      have hbx3 := Lib.hid (hbx2.out.below hba)
      have hB4 := Lib.hid (hB3.out.trans (hba.mono hB3.out.size))
      have hF3 := Lib.hid (hF'.out.kept (Kept.below hba (fun k hk => by rcases hk with hk | hk; exact Nat.lt_of_lt_of_le hk.1 hB3.out.size; exact hk.2)))
      have hz2 := Lib.hid hbx2.out.size
      clear hbx2 hB3 hF' hlt2 hba
      refine (hput'.out g r w3 (h'.out.below hB4.out)).mono ?_
      rintro e w4 ⟨rfl, hR4, hT4, hz4⟩
      have hg1 := hlt.out.1
      have hr1 := hlt.out.2
      have hz5 := hz2.out
      have hneg : w2.heap.size ≠ g ∧ w2.heap.size ≠ r := by constructor <;> omega
      have kb4 : Has w4.drew w2.heap.size _ _ := (hT4.block _ kb.lt hneg.1 hneg.2).trans kb
      have hbx4 := Lib.hid (hbx3.out.turn hT4 hg1 hr1)
      have hT5 := Lib.hid ((turn_of_below hB4.out).trans hT4)
      have hF4 := Lib.hid (hF3.out.kept (fun k hk => by
        rcases hk with hk | hk
        · exact hT4.block k (Nat.lt_of_lt_of_le hk.1 hB4.out.size) hk.2.1 hk.2.2.1
        · exact hT4.block k (by have := hk.2; omega) (by have := hk.1; have := hz1.out.1; omega) (by have := hk.1; have := hz1.out.1; omega)))
      have hR4' := Lib.hid hR4
      have hz4' := Lib.hid hz4
      have e0 : w4.drew.cell? ⟨w2.heap.size, 0, none⟩ = some (.slice PB l'.length pb) := kb4.cell 0
      have e1 : w4.drew.cell? ⟨w2.heap.size, 1, none⟩ = some (.int .u64 (first : Int)) := kb4.cell 1
      have e2 : w4.drew.cell? ⟨w2.heap.size, 2, none⟩ = some (.int .i64 (most : Int)) := kb4.cell 2
      have d0 : w4.cell? ⟨w.heap.size + 1 + 1, 0, none⟩ = some (.slice none 0 0) := hbx4.out.b2.cell 0
      have d1 : w4.cell? ⟨w.heap.size + 1 + 1, 1, none⟩ = some (.int .u64 0) := hbx4.out.b2.cell 1
      have d2 : w4.cell? ⟨w.heap.size + 1 + 1, 2, none⟩ = some (.int .i64 0) := hbx4.out.b2.cell 2
      have f0 : w4.frozen? ⟨w.heap.size + 1 + 1, 0, none⟩ = false := hbx4.out.b2.free 0
      have f1 : w4.frozen? ⟨w.heap.size + 1 + 1, 1, none⟩ = false := hbx4.out.b2.free 1
      have f2 : w4.frozen? ⟨w.heap.size + 1 + 1, 2, none⟩ = false := hbx4.out.b2.free 2
      have hne : w2.heap.size ≠ w.heap.size + 1 + 1 := by omega
      have honly : Hid (∀ u0 u1 u2, Only (w.heap.size + 1 + 1) w4 (((w4.setCell ⟨w.heap.size + 1 + 1, 0, none⟩ u0).setCell ⟨w.heap.size + 1 + 1, 1, none⟩ u1).setCell ⟨w.heap.size + 1 + 1, 2, none⟩ u2)) := fun u0 u1 u2 => (fill3 hbx4.out.b2 u0 u1 u2).2.2.2
      clear hF3 hbx3 hR4 kb kb4 hT4 hz4
      go_wp2
      go_region_held3 (fun w' => w'.cell? ⟨w2.heap.size, 0, none⟩ = some (.slice PB l'.length pb) ∧ w'.cell? ⟨w2.heap.size, 1, none⟩ = some (.int .u64 (first : Int)) ∧ w'.cell? ⟨w2.heap.size, 2, none⟩ = some (.int .i64 (most : Int)))
        (first | exact ⟨e0, e1, e2⟩ | exact ⟨(World.cell?_of_block (a := ⟨w2.heap.size, 0, none⟩) ((honly.out _ _ _).block w2.heap.size hne)).trans e0, (World.cell?_of_block (a := ⟨w2.heap.size, 1, none⟩) ((honly.out _ _ _).block w2.heap.size hne)).trans e1, (World.cell?_of_block (a := ⟨w2.heap.size, 2, none⟩) ((honly.out _ _ _).block w2.heap.size hne)).trans e2⟩)
        (first | (go_at_call 10; refine (num_any _ _).mono ?_; rintro e w' ⟨rfl, rfl⟩) | fail)
      all_goals
        go_wp2
        obtain ⟨x0, x1, x2, _⟩ := fill3 hbx4.out.b2 (.slice PB l'.length pb) (.int .u64 (first : Int)) (.int .i64 (most : Int))
        refine bodyPost_ret (v := .tuple #[.pointer (some ⟨g, 0, none⟩), .agg #[.slice PB l'.length pb, .int .u64 (first : Int), .int .i64 (most : Int)], .bool true]) (by simp [results, Try.results11, go_sem, x0, x1, x2]) rfl ?_
        have hsz := hT5.out.size
        have hz6 := hz1.out
        have hz7 := hz4'.out
        refine Acted.drew (acted_of hbx4.out hT5.out _ _ _ hR4'.out (hF4.out.mono ?_) (.inl ⟨rfl, rfl⟩) (by omega) (by omega) rfl)
        intro k hk
        rcases hk with hk | hk
        · have hk1 := hk.1
          exact ⟨⟨by omega, hk.2⟩, by omega⟩
        · exact ⟨⟨by omega, by omega, by omega, fun hx => by have := hX'.out k hx; omega⟩, by omega⟩
end Go.Proofs.Ytajdlkohnafbeaa
