import Derived.Test.YtajdlkohnafbeaaVg
import Derived.Deep.RegionWith
namespace Go.Proofs.Ytajdlkohnafbeaa
open Go.RowKit

/-- What stands behind the calls ahead. -/
def Ahead (w : World) (wb most : Nat) (x : Value) (W : World) : Prop := ∃ (g r first : Nat) (l : List Int) (PA : Option Addr) (pc : Nat), x = .pointer (some ⟨g, 0, none⟩) ∧ Pl w wb most g r first l PA pc W
theorem act_two {W : World} {most g r first : Nat} {l : List Int} {PA : Option Addr} {pc : Nat} (X : Nat → Prop) (d : Deed) (h : Rg W g r most first l) (hf : Fine W (OffX X W g r) PA l pc) (hX : ∀ k, X k → k < W.heap.size) :
    Calls Try.prog 11 #[.pointer (some ⟨g, 0, none⟩), .agg #[.slice PA l.length pc, .int .u64 (first : Int), .int .i64 (most : Int)], .agg #[.int .i64 d.what, .int .i64 d.val, .int .u64 (d.far : Int)]] W (Acted X g r most W) :=
  act_any X g r most first l l.length PA pc d.what d.val d.far W h rfl hf hX
set_option maxRecDepth 100000 in
set_option maxHeartbeats 4000000 in
theorem lawCopies (most first n : Nat) (A : Option Addr) (c : Nat) (ds : List Deed) (d e : Deed) (w : World) (hds : Deeds w A ds) (hn : n = ds.length) (hl : n ≤ 30) (h1 : 1 ≤ most) (h2 : most ≤ 4096) (hf : first ≤ 18446744073709551615) :
    Calls Try.prog 4 #[.int .i64 (most : Int), .int .u64 (first : Int), .slice A n c, .agg (pairCells d e)] w fun e w' => e = .returned (.bool true) ∧ Below w.heap.size w w' := by
  have hB : Below w.heap.size w (w.alloc (.cells (pairCells d e) 41)) := (Below.refl _ _).alloc (Nat.le_refl _) _
  have hbx : Hid (Has (w.alloc (.cells (pairCells d e) 41)) w.heap.size 41 (pairCells d e)) := Has.new _ _ _
  have hz : w.heap.size < (w.alloc (.cells (pairCells d e) 41)).heap.size := by simp
  have hds' := Lib.hid (hds.below hB)
  have hn' := Lib.hid hn
  have hB' := Lib.hid hB
  have hz' := Lib.hid hz
  have hf' := Lib.hid hf
  have d1 : decide ((30 : Int) < (n : Int)) = false := decide_eq_false (by omega)
  clear hds hB hz hn hf
  unfold pairCells at hbx hB' hds' hz' ⊢
  go_enter Try.func4, Try.ntmps4
  go_wp2_with fail
  generalize hw0 : (w.alloc (.cells #[.int .i64 d.what, .int .i64 d.val, .int .u64 (d.far : Int), .int .i64 e.what, .int .i64 e.val, .int .u64 (e.far : Int)] 41)) = w0 at hbx hB' hds' hz' ⊢
  clear hw0
  refine (new_ok most first w0 h1 h2 hf'.out).mono ?_
  rintro e1 w1 ⟨g, r, rfl, hR, hg, hr, hB⟩
  have ch1 : Hid (Chain w0 g r most first [] w1) := ⟨hR, hg, hr, hB⟩
  clear hR hg hr hB
  go_wp2_with fail
  refine (refNew_ok most first w1 h1 h2).mono ?_
  rintro e1 w2 ⟨rfl, hB2⟩
  have ch2 := Lib.hid (ch1.out.below hB2)
  clear hB2 ch1
  unfold rv
  go_wp2_with (first | (go_at_call 10; refine (num_any _ _).mono ?_; rintro e w' ⟨rfl, rfl⟩) | fail)
  have hpl0 : Hid (Pl w0 w2.heap.size most g r first [] none 0 (w2.alloc (.cells #[.slice none 0 0, .int .u64 (first : Int), .int .i64 (most : Int)] 31))) := by
    have h3 := ch2.out.q.lt
    have h4 := ch2.out.b.size
    exact ⟨ch2.out.below ((Below.refl _ _).alloc (Nat.le_refl _) _), ⟨fun h => absurd h (by simp), Nat.le_refl _, by simp⟩, Has.new _ _ _, h4, by omega, by omega⟩
  clear ch2
  generalize w2.heap.size = wb at hpl0 ⊢
  go_loopw [9, 13] (fun x i wr => ∃ k : Nat, k ≤ n ∧ i = .int .i64 k ∧ Ahead w0 wb most x wr) (fun _ i _ => n - (intOf i).toNat)
  case atStart => exact ⟨0, Nat.zero_le _, rfl, _, _, _, _, _, _, rfl, hpl0.out⟩
  case round =>
    obtain ⟨k, hk, rfl, g, r, first, l, PA, pc, rfl, hpl⟩ := hrel
    have hpl' := Lib.hid hpl
    clear hpl hpl0 hf'
    by_cases hlt : k < n
    · have hkl : k < ds.length := by have := hn'.out; omega
      obtain ⟨b, o, rfl, hS, hc⟩ := hds'.out (by omega)
      obtain ⟨hcw, hcv, hcf⟩ := hc k _ (List.getElem?_eq_getElem hkl)
      generalize ds[k] = x at hcw hcv hcf
      have hB1 := hpl'.out.ch.b
      have a0 : wr.drew.cell? ⟨wb, 0, none⟩ = some (.slice PA l.length pc) := hpl'.out.box.cell 0
      have a1 : wr.drew.cell? ⟨wb, 1, none⟩ = some (.int .u64 (first : Int)) := hpl'.out.box.cell 1
      have a2 : wr.drew.cell? ⟨wb, 2, none⟩ = some (.int .i64 (most : Int)) := hpl'.out.box.cell 2
      have a3 : wr.drew.cell? ⟨b, o + k * 3, none⟩ = some (.int .i64 x.what) := (hB1.cell (p := ⟨b, o + k * 3, none⟩) hS).trans hcw
      have a4 : wr.drew.cell? ⟨b, o + k * 3 + 1, none⟩ = some (.int .i64 x.val) := (hB1.cell (p := ⟨b, o + k * 3 + 1, none⟩) hS).trans hcv
      have a5 : wr.drew.cell? ⟨b, o + k * 3 + 2, none⟩ = some (.int .u64 (x.far : Int)) := (hB1.cell (p := ⟨b, o + k * 3 + 2, none⟩) hS).trans hcf
      have hact := Lib.hid (act_pl (· = wb) x hpl'.out ((Below.refl wr.heap.size wr).drew) (fun k hk => by have h3 : wr.drew.heap.size = wr.heap.size := rfl; have := hpl'.out.box.lt; omega) (fun k _ hne he => hne he))
      have hki : (0 : Int) ≤ (k : Int) := by omega
      have hkn : (k : Int) < (n : Int) := by omega
      clear hcw hcv hcf hc hS hkl hB1
      go_wp2
      go_region_with (first
        | (go_at_call 11; refine hact.out.mono ?_; rintro e1 w3 ⟨g', r', first', l', A', c', rfl, hQ3, hF3, hT3, hgr⟩
           have hbx4 : Has w3 wb _ _ := (hT3.block wb hpl'.out.box.lt hpl'.out.neg hpl'.out.ner).trans hpl'.out.box.drew
           have d0 : w3.cell? ⟨wb, 0, none⟩ = some (.slice PA l.length pc) := hbx4.cell 0
           have d1 : w3.cell? ⟨wb, 1, none⟩ = some (.int .u64 (first : Int)) := hbx4.cell 1
           have d2 : w3.cell? ⟨wb, 2, none⟩ = some (.int .i64 (most : Int)) := hbx4.cell 2
           have f0 : w3.frozen? ⟨wb, 0, none⟩ = false := hbx4.free 0
           have f1 : w3.frozen? ⟨wb, 1, none⟩ = false := hbx4.free 1
           have f2 : w3.frozen? ⟨wb, 2, none⟩ = false := hbx4.free 2
           have hend := Lib.hid ((hpl'.out.below (Below.refl wr.heap.size wr).drew).acted hQ3 hF3 hT3 hgr)
           simp only [rv]
           clear hQ3 hF3 hT3 hgr hbx4)
        | fail)
      all_goals
        go_wp2
        exact ⟨⟨k + 1, by omega, by go_num, _, _, _, _, _, _, rfl, hend.out⟩, by simp [intOf]; omega⟩
    · obtain rfl : k = n := by omega
      have hcp := Lib.hid (copy_any g r most first l wr hpl'.out.ch.q)
      go_wp2_with fail
      refine hcp.out.mono ?_
      rintro e1 w2 ⟨g2, r2, rfl, hQ2, hg2, hr2, hB2⟩
      have hpl2 := hpl'.out.below hB2
      have hX2 : ∀ k, (k = g2 ∨ k = r2) → k < w2.heap.size := fun k hk => by have := hQ2.lt; omega
      have hf2 : Fine w2 (OffX (fun k => k = g2 ∨ k = r2) w2 g r) PA l pc := (hpl'.out.fine.kept (Kept.below hB2 (fun k hk => hk.1))).mono (fun k hk => by have := hk.1; have := hB2.size; exact ⟨by omega, hk.2.1, hk.2.2.1, by omega⟩)
      have hact := Lib.hid (act_two (fun k => k = g2 ∨ k = r2) d hpl2.ch.q hf2 hX2)
      have hfin := Lib.hid (fun (W' : World) (g' r' : Nat) (p' : Lst) => pair1_of (W' := W') (g' := g') (r' := r') (p' := p') hpl'.out hQ2 hg2 hr2 hB2)
      have hbw := hpl2.ch.b
      have a0 : w2.cell? ⟨wb, 0, none⟩ = some (.slice PA l.length pc) := hpl2.box.cell 0
      have a1 : w2.cell? ⟨wb, 1, none⟩ = some (.int .u64 (first : Int)) := hpl2.box.cell 1
      have a2 : w2.cell? ⟨wb, 2, none⟩ = some (.int .i64 (most : Int)) := hpl2.box.cell 2
      have hb2 := hbx.out.below hbw hz'.out
      have b0 : w2.cell? ⟨w.heap.size, 0, none⟩ = some (.int .i64 d.what) := hb2.cell 0
      have b1 : w2.cell? ⟨w.heap.size, 1, none⟩ = some (.int .i64 d.val) := hb2.cell 1
      have b2 : w2.cell? ⟨w.heap.size, 2, none⟩ = some (.int .u64 (d.far : Int)) := hb2.cell 2
      clear hcp hpl2 hX2 hf2 hQ2 hg2 hr2 hB2 hbw hb2 hpl' hds'
      go_wp2_with fail
      refine hact.out.mono ?_
      rintro e1 w3 ⟨g3, r3, f3, l3, A3, c3, rfl, hQ3, hF3, hT3, hgr3⟩
      obtain ⟨p3, hp3⟩ : ∃ p : Lst, p = ⟨f3, l3, A3, c3⟩ := ⟨_, rfl⟩
      obtain rfl : p3.f = f3 := by rw [hp3]
      obtain rfl : p3.l = l3 := by rw [hp3]
      obtain rfl : p3.A = A3 := by rw [hp3]
      obtain rfl : p3.c = c3 := by rw [hp3]
      have hP := Lib.hid (hfin.out w3 g3 r3 p3 hQ3 hF3 hT3 hgr3)
      simp only [rv]
      clear hfin hact hQ3 hF3 hT3 hgr3 a0 a1 a2 b0 b1 b2 hp3
      have hbw := hP.out.hq.b
      have hb2 := hbx.out.below hbw hz'.out
      have a0 : (w3.alloc (.cells #[.slice p3.A p3.l.length p3.c, .int .u64 (p3.f : Int), .int .i64 (most : Int)] 31)).cell? ⟨wb, 0, none⟩ = some (.slice PA l.length pc) := hP.out.old.cell 0
      have a1 : (w3.alloc (.cells #[.slice p3.A p3.l.length p3.c, .int .u64 (p3.f : Int), .int .i64 (most : Int)] 31)).cell? ⟨wb, 1, none⟩ = some (.int .u64 (first : Int)) := hP.out.old.cell 1
      have a2 : (w3.alloc (.cells #[.slice p3.A p3.l.length p3.c, .int .u64 (p3.f : Int), .int .i64 (most : Int)] 31)).cell? ⟨wb, 2, none⟩ = some (.int .i64 (most : Int)) := hP.out.old.cell 2
      have b0 : (w3.alloc (.cells #[.slice p3.A p3.l.length p3.c, .int .u64 (p3.f : Int), .int .i64 (most : Int)] 31)).cell? ⟨w.heap.size, 3, none⟩ = some (.int .i64 e.what) := hb2.cell 3
      have b1 : (w3.alloc (.cells #[.slice p3.A p3.l.length p3.c, .int .u64 (p3.f : Int), .int .i64 (most : Int)] 31)).cell? ⟨w.heap.size, 4, none⟩ = some (.int .i64 e.val) := hb2.cell 4
      have b2 : (w3.alloc (.cells #[.slice p3.A p3.l.length p3.c, .int .u64 (p3.f : Int), .int .i64 (most : Int)] 31)).cell? ⟨w.heap.size, 5, none⟩ = some (.int .u64 (e.far : Int)) := hb2.cell 5
      have hact := Lib.hid (act_two (fun _ => False) e hP.out.hc.q hP.out.y (fun k hk => hk.elim))
      clear hbw hb2
      go_wp2_with fail
      refine hact.out.mono ?_
      clear a0 a1 a2 b0 b1 b2 hact
      generalize (w3.alloc (.cells #[.slice p3.A p3.l.length p3.c, .int .u64 (p3.f : Int), .int .i64 (most : Int)] 31)) = w4 at hP
      generalize w3.heap.size = zb at hP ⊢
      rintro e1 w5 ⟨g5, r5, f5, l5, A5, c5, rfl, hQ5, hF5, hT5, hgr5⟩
      obtain ⟨p5, hp5⟩ : ∃ p : Lst, p = ⟨f5, l5, A5, c5⟩ := ⟨_, rfl⟩
      obtain rfl : p5.f = f5 := by rw [hp5]
      obtain rfl : p5.l = l5 := by rw [hp5]
      obtain rfl : p5.A = A5 := by rw [hp5]
      obtain rfl : p5.c = c5 := by rw [hp5]
      have hPP := Lib.hid (pair2_of hP.out hQ5 hF5 hT5 hgr5)
      simp only [rv]
      clear hP hQ5 hF5 hT5 hgr5 hp5
      have x0 : (w5.alloc (.cells #[.slice p5.A p5.l.length p5.c, .int .u64 (p5.f : Int), .int .i64 (most : Int)] 31)).cell? ⟨zb, 0, none⟩ = some (.slice p3.A p3.l.length p3.c) := hPP.out.box.cell 0
      have x1 : (w5.alloc (.cells #[.slice p5.A p5.l.length p5.c, .int .u64 (p5.f : Int), .int .i64 (most : Int)] 31)).cell? ⟨zb, 1, none⟩ = some (.int .u64 (p3.f : Int)) := hPP.out.box.cell 1
      have x2 : (w5.alloc (.cells #[.slice p5.A p5.l.length p5.c, .int .u64 (p5.f : Int), .int .i64 (most : Int)] 31)).cell? ⟨zb, 2, none⟩ = some (.int .i64 (most : Int)) := hPP.out.box.cell 2
      go_wp2_with fail
      clear x0 x1 x2
      generalize (w5.alloc (.cells #[.slice p5.A p5.l.length p5.c, .int .u64 (p5.f : Int), .int .i64 (most : Int)] 31)) = w6 at hPP ⊢
      generalize w5.heap.size = zb2 at hPP ⊢
      generalize hbb : decide (p3.f = p5.f ∧ most = most ∧ p3.l = p5.l) = bb
      have hbb1 := Lib.hid hbb
      have hbb2 : Hid (decide (p5.f = p3.f ∧ most = most ∧ p5.l = p3.l) = bb) := by
        show _ = _
        rw [← hbb]
        exact decide_eq_decide.2 ⟨fun h => ⟨h.1.symm, rfl, h.2.2.symm⟩, fun h => ⟨h.1.symm, rfl, h.2.2.symm⟩⟩
      clear hbb
      have hsm := refSame_any p3.A p5.A p3.l p5.l p3.l.length p5.l.length p3.c p5.c p3.f p5.f most most (· < w6.heap.size) w6 hPP.out.x hPP.out.y (fun _ h => h) rfl rfl (by have := hPP.out.hq.q.num; omega)
      unfold rv at hsm
      rw [hbb1.out] at hsm
      refine hsm.mono ?_
      clear hsm
      rintro e1 w7 ⟨rfl, hB7⟩
      have hP7 := Lib.hid (hPP.out.below hB7)
      clear hPP hB7
      have a0 : w7.cell? ⟨zb, 0, none⟩ = some (.slice p3.A p3.l.length p3.c) := hP7.out.box.cell 0
      have a1 : w7.cell? ⟨zb, 1, none⟩ = some (.int .u64 (p3.f : Int)) := hP7.out.box.cell 1
      have a2 : w7.cell? ⟨zb, 2, none⟩ = some (.int .i64 (most : Int)) := hP7.out.box.cell 2
      go_wp2_with fail
      refine (is_any g3 r3 most p3.f p3.l p3.l.length p3.A p3.c 0 9999 (· < w7.heap.size) w7 hP7.out.hq.q rfl hP7.out.x (fun k hk => hk) (by omega) (by omega)).mono ?_
      rintro e1 w8 ⟨rfl, hB8⟩
      have hP8 := Lib.hid (hP7.out.below hB8)
      have b0 : w8.cell? ⟨zb2, 0, none⟩ = some (.slice p5.A p5.l.length p5.c) := hP8.out.box2.cell 0
      have b1 : w8.cell? ⟨zb2, 1, none⟩ = some (.int .u64 (p5.f : Int)) := hP8.out.box2.cell 1
      have b2 : w8.cell? ⟨zb2, 2, none⟩ = some (.int .i64 (most : Int)) := hP8.out.box2.cell 2
      clear hB8 a0 a1 a2 hP7
      go_wp2_with fail
      refine (is_any g5 r5 most p5.f p5.l p5.l.length p5.A p5.c 0 9999 (· < w8.heap.size) w8 hP8.out.hc.q rfl hP8.out.y (fun k hk => hk) (by omega) (by omega)).mono ?_
      rintro e1 w9 ⟨rfl, hB9⟩
      have hP9 := Lib.hid (hP8.out.below hB9)
      clear hB9 b0 b1 b2 hP8
      go_wp2_with fail
      refine (same_bb hP9.out.hq.q hP9.out.hc.q (by have := hbb1.out; simpa using this)).mono ?_
      rintro e1 w10 ⟨rfl, hB10⟩
      have hP10 := Lib.hid (hP9.out.below hB10)
      have hbe : (bb == bb) = true := by simp
      clear hB10 hP9
      go_wp2_with fail
      refine (same_bb hP10.out.hc.q hP10.out.hq.q (by have := hbb2.out; simpa using this)).mono ?_
      rintro e1 w11 ⟨rfl, hB11⟩
      have hP11 := Lib.hid (hP10.out.below hB11)
      clear hB11 hP10
      go_wp2_with (first | (go_at_call 7; refine (works_any _).mono ?_; rintro e w13 ⟨rfl, hb⟩) | fail)
      go_ret
      exact ⟨rfl, hB'.out.trans ((hP11.out.hq.b.trans (hb.mono hP11.out.hq.b.size)).mono (Nat.le_of_lt hz'.out))⟩
end Go.Proofs.Ytajdlkohnafbeaa
