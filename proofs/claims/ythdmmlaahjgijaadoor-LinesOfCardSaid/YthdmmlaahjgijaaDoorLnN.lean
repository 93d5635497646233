import Derived.Test.YthdmmlaahjgijaaDoorLnM
import Derived.Test.YthdmmlaahjgijaaDoorS
namespace Go.Proofs.YthdmmlaahjgijaaDoor
open Go.RowKit Go.Shelf

/-! ## New, Waits -/
/-- A splitter in memory, and which row of bytes is its own. -/
def SpO (W : World) (nb sp dp most : Nat) (ob : Option Nat) (s : CSt) : Prop :=
  ∃ vb, Has W sp 90 #[.pointer (some ⟨dp, 0, none⟩), .bool s.any, vb, .bool s.l.long, .int .i64 (most : Int), .bool s.l.half] ∧ Bs W nb vb s.l.bytes ∧ Dec W dp s.ws ∧ vb.ownBlock = ob
theorem SpO.below {W W' : World} {nb sp dp most : Nat} {ob : Option Nat} {s : CSt} (h : SpO W nb sp dp most ob s) (hb : Below W.heap.size W W') : SpO W' nb sp dp most ob s := by
  obtain ⟨vb, h1, h2, h3, h4⟩ := h
  exact ⟨vb, h1.below hb h1.lt, h2.below hb, h3.below hb, h4⟩
theorem SpO.chg {W W' : World} {S : Nat → Prop} {nb sp dp most : Nat} {ob : Option Nat} {s : CSt} (h : SpO W nb sp dp most ob s) (hc : Chg S W W') (h1 : ¬ S sp) (h2 : ¬ S dp) (h3 : ∀ k, ob = some k → ¬ S k) : SpO W' nb sp dp most ob s := by
  obtain ⟨vb, a1, a2, a3, a4⟩ := h
  exact ⟨vb, hc.has h1 a1, a2.kept (fun g hg => hc.block g (a2.own g hg).2.choose_spec.lt (h3 g (a4.symm.trans hg))), a3.chg hc h2, a4⟩
theorem SpO.lt {W : World} {nb sp dp most : Nat} {ob : Option Nat} {s : CSt} (h : SpO W nb sp dp most ob s) : sp < W.heap.size ∧ dp < W.heap.size ∧ sp ≠ dp ∧ ∀ k, ob = some k → k < W.heap.size ∧ k ≠ sp ∧ k ≠ dp ∧ nb ≤ k := by
  obtain ⟨vb, a1, a2, a3, a4⟩ := h
  obtain ⟨_, hd⟩ := a3.typed
  refine ⟨a1.lt, a3.lt, a1.apart hd (by decide), fun k hk => ?_⟩
  obtain ⟨h1, _, hh⟩ := a2.own k (a4.trans hk)
  exact ⟨hh.lt, hh.apart a1 (by decide), hh.apart hd (by decide), h1⟩
theorem begun_any (w : World) : Calls Tryd.prog 72 #[] w fun e w' => e = .returned (.agg #[.pointer (some ⟨w.heap.size + 1, 0, none⟩), .bool false]) ∧ Dec w' (w.heap.size + 1) [] ∧ Below w.heap.size w w' ∧ w'.heap.size = w.heap.size + 2 := by
  have k0 := (Has.new w 86 #[.pointer none, .bool false]).alloc (.cells #[.int .u8 0, .int .u8 0, .int .u8 0, .int .i64 0, .bool true] 57)
  have k0' := Lib.hid k0
  have g0 := k0.cell 0
  have g1 := k0.cell 1
  have q0 := k0.free 0
  have q1 := k0.free 1
  have kd := Lib.hid (dec_new (w.alloc (.cells #[.pointer (some ⟨w.heap.size + 1, 0, none⟩), .bool false] 86)))
  have k1 := (Has.new w 86 #[.pointer (some ⟨w.heap.size + 1, 0, none⟩), .bool false]).alloc (.cells #[.int .u8 0, .int .u8 0, .int .u8 0, .int .i64 0, .bool true] 57)
  have k1' := Lib.hid k1
  clear k0 k0' k1
  go_enter Tryd.func72, Tryd.ntmps72
  go_wp2_with (go_at_call 21; (with_reducible refine Calls.mono (new_any _) ?_); rintro e w1 ⟨rfl, rfl⟩)
  have x0 := k1'.out.cell 0
  have x1 := k1'.out.cell 1
  have kd2 := kd.out
  rw [World.size_alloc] at kd2
  refine bodyPost_ret (v := .agg #[.pointer (some ⟨w.heap.size + 1, 0, none⟩), .bool false]) (by simp [results, Tryd.results72, go_sem, x0, x1]) rfl ⟨rfl, ?_, ?_, by simp⟩
  · exact kd2
  · exact ((Below.refl w.heap.size w).alloc (Nat.le_refl _) _).alloc (by simp) _
def MadeL (nb most : Nat) (w : World) (sp : Nat) (w' : World) : Prop := ∃ dp, w.heap.size ≤ sp ∧ w.heap.size ≤ dp ∧ SpO w' nb sp dp most none init0 ∧ Below w.heap.size w w'
theorem fresh_any (nb most : Nat) (w : World) : Calls Tryd.prog 59 #[.int .i64 (most : Int)] w fun e w' => ∃ sp, e = .returned (.pointer (some ⟨sp, 0, none⟩)) ∧ MadeL nb most w sp w' := by
  go_enter Tryd.func59, Tryd.ntmps59
  go_wp2_with (go_at_call 72; (with_reducible refine Calls.mono (begun_any _) ?_); rintro e w1 ⟨rfl, hd, hb, hz⟩; have hd' := Lib.hid hd; have hb' := Lib.hid hb; have hz' := Lib.hid hz; clear hd hb hz)
  go_ret
  have hz := hz'.out
  exact ⟨_, rfl, w.heap.size + 1, by omega, by omega, ⟨.slice none 0 0, Has.new w1 _ _, bs_nil _ _, hd'.out.below ((Below.refl _ _).alloc (Nat.le_refl _) _), rfl⟩, hb'.out.alloc (by omega) _⟩
def NewOf (nb most : Nat) (w : World) (e : Ending) (w' : World) : Prop := ∃ sp, e = .returned (.tuple #[.pointer (some ⟨sp, 0, none⟩), .int .i64 0]) ∧ MadeL nb most w sp w'
theorem newL_yes (nb most : Nat) (w : World) (h1 : 1 ≤ most) (h2 : most ≤ 65536) : Calls Tryd.prog 35 #[.int .i64 (most : Int)] w (NewOf nb most w) := by
  have hi1 : ¬ (most : Int) < 1 := by omega
  have hi2 : ¬ (65536 : Int) < (most : Int) := by omega
  go_enter Tryd.func35, Tryd.ntmps35
  go_wp2
  refine wp_scope_on 0 rfl ?_
  go_wp2_with fail
  refine (fresh_any nb most w).mono ?_
  rintro e w1 ⟨sp, rfl, hM⟩
  have hM' := Lib.hid hM
  clear hM
  go_wp2
  rw [jump_ret]
  go_ret2
  exact ⟨sp, rfl, hM'.out⟩
theorem newL_no (z : Int) (w : World) (h : z < 1 ∨ 65536 < z) : Calls Tryd.prog 35 #[.int .i64 z] w fun e w' => e = .returned (.tuple #[.pointer none, .int .i64 2]) ∧ w = w' := by
  by_cases h1 : z < 1
  · clear h
    go_enter Tryd.func35, Tryd.ntmps35
    go_wp2
    refine wp_scope_on 0 rfl ?_
    go_wp2
    go_step3
    refine ⟨rfl, ?_⟩
    go_wp2
    rw [Exit.noGoto_ret]
    go_ret2
    exact ⟨rfl, rfl⟩
  · have h2 : 65536 < z := by omega
    clear h
    go_enter Tryd.func35, Tryd.ntmps35
    go_wp2
    refine wp_scope_on 0 rfl ?_
    go_wp2
    go_step3
    refine ⟨rfl, ?_⟩
    go_wp2
    rw [Exit.noGoto_ret]
    go_ret2
    exact ⟨rfl, rfl⟩
theorem waitsL_any (nb sp dp most : Nat) (ob : Option Nat) (s : CSt) (w : World) (h : SpO w nb sp dp most ob s) (h1 : 1 ≤ most) : Calls Tryd.prog 41 #[.pointer (some ⟨sp, 0, none⟩)] w fun e w' => e = .returned (.agg #[.string ⟨s.l.bytes.toArray⟩, .bool s.l.long]) ∧ Below w.heap.size w w' := by
  obtain ⟨vb, a1, a2, a3, a4⟩ := h
  have hb1 : Below w.heap.size w (w.alloc (.cells #[.string ⟨#[]⟩, .bool false] 70)) := (Below.refl _ _).alloc (Nat.le_refl _) _
  have hs1 := a1.below hb1 a1.lt
  have hv1 := a2.below hb1
  have kR := Has.new w 70 #[.string ⟨#[]⟩, .bool false]
  have hnone := Lib.hid (sNone_no sp most _ (hs1.cell 4) h1)
  have hline := Lib.hid (line_any sp nb _ _ vb s.any s.l.half s.l.long s.l.bytes _ hs1 hv1)
  have kR' := Lib.hid kR
  have hb1' := Lib.hid hb1
  clear a1 a2 a3 a4 hb1 hs1 hv1 kR
  go_enter Tryd.func41, Tryd.ntmps41
  go_wp2_with (first
    | (go_at_call 60; (with_reducible refine Calls.mono hnone.out ?_); rintro e w1 ⟨rfl, rfl⟩)
    | (go_at_call 64; (with_reducible refine Calls.mono hline.out ?_); rintro e w2 ⟨rfl, hb2⟩; have kR2 := kR'.out.below hb2 kR'.out.lt; have g0 := kR2.cell 0; have g1 := kR2.cell 1; have q0 := kR2.free 0; have q1 := kR2.free 1; have kR2' := Lib.hid kR2; have hb2' := Lib.hid hb2; clear kR2 hb2))
  have k1 := (kR2'.out.put 0 (.string ⟨s.l.bytes.toArray⟩)).put 1 (.bool s.l.long)
  have x0 := k1.cell 0
  have x1 := k1.cell 1
  refine bodyPost_ret (v := .agg #[.string ⟨s.l.bytes.toArray⟩, .bool s.l.long]) (by simp [results, Tryd.results41, go_sem, x0, x1]) rfl ⟨rfl, ?_⟩
  exact ((hb1'.out.trans (hb2'.out.mono (by simp))).setCell (p := ⟨w.heap.size, 0, none⟩) (Nat.le_refl _) _).setCell (p := ⟨w.heap.size, 1, none⟩) (Nat.le_refl _) _
theorem waitsL_none (v : Option Addr) (w : World) (h : NoS w v) : Calls Tryd.prog 41 #[.pointer v] w fun e w' => e = .returned (.agg #[.string ⟨#[]⟩, .bool false]) ∧ Below w.heap.size w w' := by
  have hN : NoS (w.alloc (.cells #[.string ⟨#[]⟩, .bool false] 70)) v := by
    rcases h with rfl | ⟨s, rfl, h⟩
    · exact .inl rfl
    · exact .inr ⟨s, rfl, (((Below.refl w.heap.size w).alloc (Nat.le_refl _) _).cell (p := ⟨s, 4, none⟩) (by
        unfold World.cell? at h
        show s < w.heap.size
        by_cases hs : s < w.heap.size
        · exact hs
        · rw [Array.getElem?_eq_none (by show w.heap.size ≤ s; omega)] at h; cases h)).trans h⟩
  have hnone := Lib.hid (sNone_yes v _ hN)
  have kR := Lib.hid (Has.new w 70 #[.string ⟨#[]⟩, .bool false])
  clear h hN
  go_enter Tryd.func41, Tryd.ntmps41
  go_wp2_with (go_at_call 60; (with_reducible refine Calls.mono hnone.out ?_); rintro e w1 ⟨rfl, rfl⟩)
  have x0 := kR.out.cell 0
  have x1 := kR.out.cell 1
  refine bodyPost_ret (v := .agg #[.string ⟨#[]⟩, .bool false]) (by simp [results, Tryd.results41, go_sem, x0, x1]) rfl ⟨rfl, ?_⟩
  exact (Below.refl w.heap.size w).alloc (Nat.le_refl _) _
end Go.Proofs.YthdmmlaahjgijaaDoor
