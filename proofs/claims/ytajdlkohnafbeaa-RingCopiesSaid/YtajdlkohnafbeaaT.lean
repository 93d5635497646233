import Derived.Test.YtajdlkohnafbeaaP
import Derived.Deep.RegionHeld3
namespace Go.Proofs.Ytajdlkohnafbeaa
open Go.RowKit

/-! ## A call by both -/
/-- What is neither the ring's head nor its row, and not what X says. -/
def OffX (X : Nat → Prop) (W : World) (g r k : Nat) : Prop := k < W.heap.size ∧ k ≠ g ∧ k ≠ r ∧ ¬ X k
/-- What a call by both leaves. -/
def Acted (X : Nat → Prop) (g r most : Nat) (W : World) (e : Ending) (W' : World) : Prop :=
  ∃ g' r' first' l' A' c', e = .returned (.tuple #[.pointer (some ⟨g', 0, none⟩), rv A' l'.length c' first' most, .bool true]) ∧ Rg W' g' r' most first' l' ∧ Fine W' (OffX X W' g' r') A' l' c' ∧ Turn g r W W' ∧
    ((g' = g ∧ r' = r) ∨ (W.heap.size ≤ g' ∧ W.heap.size ≤ r'))
/-- The three boxes that a call by both begins with. -/
structure Boxes (w : World) (A : Option Addr) (n c first most : Nat) (what val : Int) (far : Nat) (W : World) : Prop where
  b0 : Has W w.heap.size 31 #[.slice A n c, .int .u64 (first : Int), .int .i64 (most : Int)]
  b1 : Has W (w.heap.size + 1) 38 #[.int .i64 what, .int .i64 val, .int .u64 (far : Int)]
  b2 : Has W (w.heap.size + 1 + 1) 31 #[.slice none 0 0, .int .u64 0, .int .i64 0]
  size : w.heap.size + 3 ≤ W.heap.size
section
variable {w W W' : World} {A : Option Addr} {n c first most far : Nat} {what val : Int}
theorem Boxes.below (h : Boxes w A n c first most what val far W) (hb : Below W.heap.size W W') : Boxes w A n c first most what val far W' :=
  ⟨h.b0.below hb h.b0.lt, h.b1.below hb h.b1.lt, h.b2.below hb h.b2.lt, Nat.le_trans h.size hb.size⟩
theorem Boxes.turn {g r : Nat} (h : Boxes w A n c first most what val far W) (hT : Turn g r W W') (hg : g < w.heap.size) (hr : r < w.heap.size) : Boxes w A n c first most what val far W' :=
  ⟨(hT.block _ h.b0.lt (by omega) (by omega)).trans h.b0, (hT.block _ h.b1.lt (by omega) (by omega)).trans h.b1, (hT.block _ h.b2.lt (by omega) (by omega)).trans h.b2, Nat.le_trans h.size hT.size⟩
theorem boxes_new (w : World) (A : Option Addr) (n c first most : Nat) (what val : Int) (far : Nat) :
    Boxes w A n c first most what val far (((w.alloc (.cells #[.slice A n c, .int .u64 (first : Int), .int .i64 (most : Int)] 31)).alloc (.cells #[.int .i64 what, .int .i64 val, .int .u64 (far : Int)] 38)).alloc (.cells #[.slice none 0 0, .int .u64 0, .int .i64 0] 31)) ∧
    Below w.heap.size w (((w.alloc (.cells #[.slice A n c, .int .u64 (first : Int), .int .i64 (most : Int)] 31)).alloc (.cells #[.int .i64 what, .int .i64 val, .int .u64 (far : Int)] 38)).alloc (.cells #[.slice none 0 0, .int .u64 0, .int .i64 0] 31)) := by
  refine ⟨⟨((Has.new w _ _).alloc _).alloc _, ?_, ?_, by simp⟩, (((Below.refl w.heap.size w).alloc (Nat.le_refl _) _).alloc (by simp) _).alloc (by simp; omega) _⟩
  · have := (Has.new (w.alloc (.cells #[.slice A n c, .int .u64 (first : Int), .int .i64 (most : Int)] 31)) 38 #[.int .i64 what, .int .i64 val, .int .u64 (far : Int)]).alloc (.cells #[.slice none 0 0, .int .u64 0, .int .i64 0] 31)
    simpa only [World.size_alloc] using this
  · have := Has.new ((w.alloc (.cells #[.slice A n c, .int .u64 (first : Int), .int .i64 (most : Int)] 31)).alloc (.cells #[.int .i64 what, .int .i64 val, .int .u64 (far : Int)] 38)) 31 #[.slice none 0 0, .int .u64 0, .int .i64 0]
    simpa only [World.size_alloc] using this
end
/-- From a world ahead of the last stores. -/
theorem acted_of {X : Nat → Prop} {w W : World} {A : Option Addr} {n c first most far : Nat} {what val : Int} {g r : Nat} (_h : Boxes w A n c first most what val far W) (hT : Turn g r w W) {g' r' first' : Nat} {l' : List Int} {A' : Option Addr} {c' : Nat} (u v x : Value) (hQ : Rg W g' r' most first' l')
    (hf : Fine W (fun k => OffX X W g' r' k ∧ k ≠ w.heap.size + 1 + 1) A' l' c') (hgr : (g' = g ∧ r' = r) ∨ (w.heap.size ≤ g' ∧ w.heap.size ≤ r')) (hg : g' ≠ w.heap.size + 1 + 1) (hr : r' ≠ w.heap.size + 1 + 1) {e : Ending}
    (he : e = .returned (.tuple #[.pointer (some ⟨g', 0, none⟩), rv A' l'.length c' first' most, .bool true])) :
    Acted X g r most w e (((W.setCell ⟨w.heap.size + 1 + 1, 0, none⟩ u).setCell ⟨w.heap.size + 1 + 1, 1, none⟩ v).setCell ⟨w.heap.size + 1 + 1, 2, none⟩ x) := by
  have ho := ((only_setCell (w.heap.size + 1 + 1) 0 W u).trans (only_setCell (w.heap.size + 1 + 1) 1 _ v)).trans (only_setCell (w.heap.size + 1 + 1) 2 _ x)
  refine ⟨g', r', first', l', A', c', he, hQ.kept (ho.block g' hg) (ho.block r' hr), (hf.kept (fun k hk => ho.block k hk.2)).mono (fun k hk => by have := hk.1; unfold OffX at this ⊢; rw [ho.size]; exact this), ?_, hgr⟩
  exact ⟨ho.os.trans hT.os, ho.tape.trans hT.tape, ho.output.trans hT.output, by rw [ho.size]; exact hT.size, fun k hk h1 h2 => (ho.block k (by omega)).trans (hT.block k hk h1 h2)⟩
theorem Acted.drew {X : Nat → Prop} {g r most : Nat} {W W' : World} {e : Ending} (h : Acted X g r most W e W') : Acted X g r most W e W'.drew := by
  obtain ⟨g', r', f', l', A', c', he, hQ, hF, hT, hgr⟩ := h
  exact ⟨g', r', f', l', A', c', he, hQ.kept rfl rfl, hF.kept (fun _ _ => rfl), ⟨hT.os, hT.tape, hT.output, hT.size, hT.block⟩, hgr⟩
/-! ## Put by both -/
/-- What Put tells, whatever the ring: index, what went, whether, the error; and the ring then. -/
theorem put_both (A : Option Addr) (l : List Int) (n c first most : Nat) (x : Int) (S : Nat → Prop) (hn : l.length = n) (hfit : n ≤ most) (hpos : 1 ≤ most) (htop : most ≤ 4096) (hlast : first + n ≤ 18446744073709551615) :
    ∃ (N : Nat) (gone : Int) (had : Bool) (no : Int) (first' : Nat) (l' : List Int),
      (∀ w, Fine w S A l c → (∀ k, S k → k < w.heap.size) → Calls Try.prog 24 #[rv A n c first most, .int .i64 x] w fun e w' => ∃ B d, e = .returned (.tuple #[rv B l'.length d first' most, .int .u64 (N : Int), .int .i64 gone, .bool had, .int .i64 no]) ∧ Fine w' (fun k => S k ∨ (w.heap.size ≤ k ∧ k < w'.heap.size)) B l' d ∧ Below w.heap.size w w') ∧
      (∀ g r w, Rg w g r most first l → Calls Try.prog 16 #[.pointer (some ⟨g, 0, none⟩), .int .i64 x] w fun e w' => e = .returned (.tuple #[.int .u64 (N : Int), .int .i64 gone, .bool had, .int .i64 no]) ∧ Rg w' g r most first' l' ∧ Turn g r w w' ∧ w'.heap.size = w.heap.size) := by
  by_cases hf : 18446744073709551614 < first + n
  · refine ⟨0, 0, false, 111, first, l, fun w hp hS => ?_, fun g r w h => ?_⟩
    · refine (refPut_full A n c first most x w hf hlast).mono ?_
      rintro e w' ⟨rfl, hb⟩
      exact ⟨A, c, by rw [hn]; rfl, (hp.kept (Kept.below hb hS)).mono (fun _ hk => .inl hk), hb⟩
    · refine (put_full g r most first l x w h (by rw [hn]; exact hf)).mono ?_
      rintro e w' ⟨rfl, rfl⟩
      exact ⟨rfl, h, Turn.refl _ _ _, rfl⟩
  by_cases hr : n < most
  · refine ⟨first + n, 0, false, 0, first, l ++ [x], fun w hp hS => ?_, fun g r w h => ?_⟩
    · refine (refPut_room A l n c first most (first + n) x S w hp hS hn rfl (by omega) hr htop).mono ?_
      rintro e w' ⟨B, d, rfl, hF, hb⟩
      exact ⟨B, d, rfl, hF.mono (fun _ hk => .inr hk), hb⟩
    · exact put_room g r most first (first + n) l x w h (by rw [hn]) (by omega) (by omega)
  · cases l with
    | nil => simp at hn; omega
    | cons y t =>
      have hlen : t.length + 1 = n := hn
      refine ⟨first + n, y, true, 0, first + 1, t ++ [x], fun w hp hS => ?_, fun g r w h => ?_⟩
      · refine (refPut_over A (y :: t) n c first most (first + n) x S w hp hS hn rfl (by omega) (by omega) htop hpos y (t ++ [x]) rfl).mono ?_
        rintro e w' ⟨B, d, rfl, hF, hb⟩
        exact ⟨B, d, rfl, hF.mono (fun _ hk => .inr hk), hb⟩
      · exact put_over g r most first (first + n) y t x w h (by omega) (by omega) (by omega)
set_option maxRecDepth 100000 in
set_option maxHeartbeats 4000000 in
theorem act_put (X : Nat → Prop) (g r most first : Nat) (l : List Int) (n : Nat) (A : Option Addr) (c : Nat) (what val : Int) (far : Nat) (w : World) (h : Rg w g r most first l) (hn : l.length = n) (hp : Fine w (OffX X w g r) A l c) (hX : ∀ k, X k → k < w.heap.size) (hw : what = 0 ∨ what = 1 ∨ what = 2 ∨ what = 3) :
    Calls Try.prog 11 #[.pointer (some ⟨g, 0, none⟩), rv A n c first most, .agg #[.int .i64 what, .int .i64 val, .int .u64 (far : Int)]] w (Acted X g r most w) := by
  have hnum := h.num
  obtain ⟨N, gone, had, no, first', l', href, hput⟩ := put_both A l n c first most val (OffX X w g r) hn (by omega) hnum.1 hnum.2.1 (by omega)
  have href' := Lib.hid href
  have hput' := Lib.hid hput
  have hp' := Lib.hid hp
  have h' := Lib.hid h
  have hlt := Lib.hid h.lt
  have hX' := Lib.hid hX
  clear href hput hp h hnum hX hn
  unfold rv at href' ⊢
  rcases hw with hw | hw | hw | hw
  case' inl =>
    have q0 : (what == 0) = true := by rw [beq_iff_eq]; omega
    clear hw
  case' inr.inl =>
    have q0 : (what == 0) = false := by rw [beq_eq_false_iff_ne]; omega
    have q1 : (what == 1) = true := by rw [beq_iff_eq]; omega
    clear hw
  case' inr.inr.inl =>
    have q0 : (what == 0) = false := by rw [beq_eq_false_iff_ne]; omega
    have q1 : (what == 1) = false := by rw [beq_eq_false_iff_ne]; omega
    have q2 : (what == 2) = true := by rw [beq_iff_eq]; omega
    clear hw
  case' inr.inr.inr =>
    have q0 : (what == 0) = false := by rw [beq_eq_false_iff_ne]; omega
    have q1 : (what == 1) = false := by rw [beq_eq_false_iff_ne]; omega
    have q2 : (what == 2) = false := by rw [beq_eq_false_iff_ne]; omega
    have q3 : (what == 3) = true := by rw [beq_iff_eq]; omega
    clear hw
  all_goals
    go_enter Try.func11, Try.ntmps11
    go_wp2_with fail
    obtain ⟨hbx, hB⟩ := boxes_new w A n c first most what val far
    generalize (((w.alloc (.cells #[.slice A n c, .int .u64 (first : Int), .int .i64 (most : Int)] 31)).alloc (.cells #[.int .i64 what, .int .i64 val, .int .u64 (far : Int)] 38)).alloc (.cells #[.slice none 0 0, .int .u64 0, .int .i64 0] 31)) = w1 at hbx hB ⊢
    refine (href'.out w1 (hp'.out.kept (Kept.below hB (fun k hk => hk.1))) (fun k hk => Nat.lt_of_lt_of_le hk.1 hB.size)).mono ?_
    rintro e w2 ⟨PB, pb, rfl, hF, hB2⟩
    have hbx2 := Lib.hid (hbx.below hB2)
    have hB3 := Lib.hid (hB.trans (hB2.mono hB.size))
    have hF' := Lib.hid hF
    have c11 : w2.cell? ⟨w.heap.size + 1, 1, none⟩ = some (.int .i64 val) := hbx2.out.b1.cell 1
    have hlt2 : w.heap.size + 1 < w2.heap.size := by have := hbx2.out.size; omega
    have hz1 := Lib.hid (And.intro hbx.size hB2.size)
    clear hbx hB hB2 hF
    go_wp2_with fail
    have kb := Has.new w2 31 #[.slice PB l'.length pb, .int .u64 (first' : Int), .int .i64 (most : Int)]
    have hba := (Below.refl w2.heap.size w2).alloc (Nat.le_refl _) (.cells #[.slice PB l'.length pb, .int .u64 (first' : Int), .int .i64 (most : Int)] 31)
    have hz3 : (w2.alloc (.cells #[.slice PB l'.length pb, .int .u64 (first' : Int), .int .i64 (most : Int)] 31)).heap.size = w2.heap.size + 1 := by simp
    generalize w2.alloc (.cells #[.slice PB l'.length pb, .int .u64 (first' : Int), .int .i64 (most : Int)] 31) = w3 at kb hba hz3 ⊢
    have hbx3 := Lib.hid (hbx2.out.below hba)
    have hB4 := Lib.hid (hB3.out.trans (hba.mono hB3.out.size))
    have hF3 := Lib.hid (hF'.out.kept (Kept.below hba (fun k hk => by rcases hk with hk | hk; exact Nat.lt_of_lt_of_le hk.1 hB3.out.size; exact hk.2)))
    have hz2 := Lib.hid hbx2.out.size
    clear hbx2 hB3 hF' hlt2 hba
    refine (hput'.out g r w3 (h'.out.below hB4.out)).mono ?_
    rintro e w4 ⟨rfl, hR4, hT4, hz4⟩
    have hg1 := hlt.out.1
    have hr1 := hlt.out.2
    have hz5 := hz2.out
    have hneg : w2.heap.size ≠ g ∧ w2.heap.size ≠ r := by constructor <;> omega
    have kb4 : Has w4.drew w2.heap.size _ _ := (hT4.block _ kb.lt hneg.1 hneg.2).trans kb
    have hbx4 := Lib.hid (hbx3.out.turn hT4 hg1 hr1)
    have hT5 := Lib.hid ((turn_of_below hB4.out).trans hT4)
    have hF4 := Lib.hid (hF3.out.kept (fun k hk => by
      rcases hk with hk | hk
      · exact hT4.block k (Nat.lt_of_lt_of_le hk.1 hB4.out.size) hk.2.1 hk.2.2.1
      · exact hT4.block k (by have := hk.2; omega) (by have := hk.1; have := hz1.out.1; omega) (by have := hk.1; have := hz1.out.1; omega)))
    have hR4' := Lib.hid hR4
    have hz4' := Lib.hid hz4
    have e0 : w4.drew.cell? ⟨w2.heap.size, 0, none⟩ = some (.slice PB l'.length pb) := kb4.cell 0
    have e1 : w4.drew.cell? ⟨w2.heap.size, 1, none⟩ = some (.int .u64 (first' : Int)) := kb4.cell 1
    have e2 : w4.drew.cell? ⟨w2.heap.size, 2, none⟩ = some (.int .i64 (most : Int)) := kb4.cell 2
    have d0 : w4.cell? ⟨w.heap.size + 1 + 1, 0, none⟩ = some (.slice none 0 0) := hbx4.out.b2.cell 0
    have d1 : w4.cell? ⟨w.heap.size + 1 + 1, 1, none⟩ = some (.int .u64 0) := hbx4.out.b2.cell 1
    have d2 : w4.cell? ⟨w.heap.size + 1 + 1, 2, none⟩ = some (.int .i64 0) := hbx4.out.b2.cell 2
    have f0 : w4.frozen? ⟨w.heap.size + 1 + 1, 0, none⟩ = false := hbx4.out.b2.free 0
    have f1 : w4.frozen? ⟨w.heap.size + 1 + 1, 1, none⟩ = false := hbx4.out.b2.free 1
    have f2 : w4.frozen? ⟨w.heap.size + 1 + 1, 2, none⟩ = false := hbx4.out.b2.free 2
    have hne : w2.heap.size ≠ w.heap.size + 1 + 1 := by omega
    have honly : Hid (∀ u0 u1 u2, Only (w.heap.size + 1 + 1) w4 (((w4.setCell ⟨w.heap.size + 1 + 1, 0, none⟩ u0).setCell ⟨w.heap.size + 1 + 1, 1, none⟩ u1).setCell ⟨w.heap.size + 1 + 1, 2, none⟩ u2)) := fun u0 u1 u2 => (fill3 hbx4.out.b2 u0 u1 u2).2.2.2
    clear hF3 hbx3 hR4 kb kb4 hT4 hz4
    go_wp2
    go_region_held3 (fun w' => w'.cell? ⟨w2.heap.size, 0, none⟩ = some (.slice PB l'.length pb) ∧ w'.cell? ⟨w2.heap.size, 1, none⟩ = some (.int .u64 (first' : Int)) ∧ w'.cell? ⟨w2.heap.size, 2, none⟩ = some (.int .i64 (most : Int)))
      (first | exact ⟨e0, e1, e2⟩ | exact ⟨(World.cell?_of_block (a := ⟨w2.heap.size, 0, none⟩) ((honly.out _ _ _).block w2.heap.size hne)).trans e0, (World.cell?_of_block (a := ⟨w2.heap.size, 1, none⟩) ((honly.out _ _ _).block w2.heap.size hne)).trans e1, (World.cell?_of_block (a := ⟨w2.heap.size, 2, none⟩) ((honly.out _ _ _).block w2.heap.size hne)).trans e2⟩)
      (first | (go_at_call 10; refine (num_any _ _).mono ?_; rintro e w' ⟨rfl, rfl⟩) | fail)
    all_goals
      go_wp2
      obtain ⟨x0, x1, x2, _⟩ := fill3 hbx4.out.b2 (.slice PB l'.length pb) (.int .u64 (first' : Int)) (.int .i64 (most : Int))
      refine bodyPost_ret (v := .tuple #[.pointer (some ⟨g, 0, none⟩), .agg #[.slice PB l'.length pb, .int .u64 (first' : Int), .int .i64 (most : Int)], .bool true]) (by simp [results, Try.results11, go_sem, x0, x1, x2]) rfl ?_
      have hsz := hT5.out.size
      have hz6 := hz1.out
      have hz7 := hz4'.out
      refine Acted.drew (acted_of hbx4.out hT5.out _ _ _ hR4'.out (hF4.out.mono ?_) (.inl ⟨rfl, rfl⟩) (by omega) (by omega) rfl)
      intro k hk
      rcases hk with hk | hk
      · have hk1 := hk.1
        exact ⟨⟨by omega, hk.2⟩, by omega⟩
      · exact ⟨⟨by omega, by omega, by omega, fun hx => by have := hX'.out k hx; omega⟩, by omega⟩
end Go.Proofs.Ytajdlkohnafbeaa
