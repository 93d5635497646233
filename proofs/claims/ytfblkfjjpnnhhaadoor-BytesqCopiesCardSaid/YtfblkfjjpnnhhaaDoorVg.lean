import Derived.Test.YtfblkfjjpnnhhaaDoorVf
namespace Go.Proofs.YtfblkfjjpnnhhaaDoor
open Go.RowKit

/-- What stands behind the calls ahead. -/
def Ahead (w : World) (wb room : Nat) (x : Value) (W : World) : Prop := ∃ (g r : Nat) (l : List UInt8) (PA : Option Addr) (pc : Nat), x = .pointer (some ⟨g, 0, none⟩) ∧ Pl w wb room g r l PA pc W
set_option maxRecDepth 100000 in
set_option maxHeartbeats 4000000 in
theorem lawCopies (room n : Nat) (A : Option Addr) (c : Nat) (ds : List Deed) (d e : Deed) (w : World) (hds : Deeds w (· < w.heap.size) A ds) (hn : n = ds.length) (hd : DeedOk w (· < w.heap.size) d) (he : DeedOk w (· < w.heap.size) e) (hT : Tab w) (hfew : fewB 30 ds = true) (hfew2 : fewB 2 [d, e] = true) (hroom : room ≤ 1048576) :
    Calls Tryd.prog 4 #[.int .i64 (room : Int), .slice A n c, .agg (pairCells d e)] w fun e w' => e = .returned (.bool true) ∧ Below w.heap.size w w' := by
  have hB : Below w.heap.size w (w.alloc (.cells (pairCells d e) 39)) := (Below.refl _ _).alloc (Nat.le_refl _) _
  have hbx : Hid (Has (w.alloc (.cells (pairCells d e) 39)) w.heap.size 39 (pairCells d e)) := Has.new _ _ _
  have hfw := of_decide_eq_true hfew
  have hfw2 := of_decide_eq_true hfew2
  have hl : n ≤ 30 := by have := hfw.1; omega
  have hall := Lib.hid hfw.2
  have hsd := Lib.hid (hfw2.2 d (by simp))
  have hse := Lib.hid (hfw2.2 e (by simp))
  have hz : w.heap.size < (w.alloc (.cells (pairCells d e) 39)).heap.size := by simp
  have hk : Kept (· < w.heap.size) w (w.alloc (.cells (pairCells d e) 39)) := fun k hk => hB.block k hk
  have hm : ∀ k, k < w.heap.size → k < (w.alloc (.cells (pairCells d e) 39)).heap.size := fun k hk => by omega
  have hd' := Lib.hid ((hd.hold hk).wider hm)
  have he' := Lib.hid ((he.hold hk).wider hm)
  have hds' := Lib.hid ((hds.kept hk).mono hm)
  have hn' := Lib.hid hn
  have hT' := Lib.hid (hT.below hB hT.lt)
  have hB' := Lib.hid hB
  have hz' := Lib.hid hz
  have h0 : (0 : Int) ≤ (room : Int) := by omega
  have h1 : (room : Int) ≤ 1048576 := by omega
  have hfew' := Lib.hid hfew
  have hfew2' := Lib.hid hfew2
  clear hds hd he hT hfew hfew2 hfw hfw2 hB hz hk hm hn
  unfold pairCells at hbx hB' hd' he' hds' hT' hz' ⊢
  go_enter Tryd.func4, Tryd.ntmps4
  go_wp2_with fail
  generalize hw0 : (w.alloc (.cells #[.int .i64 d.what, .int .i64 d.n, .slice d.a.A d.a.l.length d.a.c, .slice d.b.A d.b.l.length d.b.c, .int .i64 e.what, .int .i64 e.n, .slice e.a.A e.a.l.length e.a.c, .slice e.b.A e.b.l.length e.b.c] 39)) = w0 at hbx hB' hd' he' hds' hT' hz' ⊢
  clear hw0
  have hq2 := Lib.hid (fun q => few_any (some ⟨w.heap.size, 0, none⟩) (· < w0.heap.size) [d, e] 2 2 2 (w0.drewN q) (deeds_two ((hbx.out).drewN q) hz'.out (hd'.out.hold (fun _ _ => rfl)) (he'.out.hold (fun _ _ => rfl))) rfl (by omega) (by omega))
  rw [hfew2'.out] at hq2
  have hf := few_any A (· < w0.heap.size) ds n c 30 w0 hds'.out hn'.out (by omega) (by omega)
  rw [hfew'.out] at hf
  refine hf.mono ?_
  rintro e1 w1 ⟨rfl, q, rfl⟩
  go_wp2_with (first | (go_at_call 7; refine (hq2.out q).mono ?_; rintro e1 w3 ⟨rfl, q2, rfl⟩; rw [World.drewN_drewN]) | fail)
  generalize q + q2 = q3
  refine (new_ok room (w0.drewN q3) (hT'.out.below (below_draws (Below.refl _ _) q3) hT'.out.lt) hroom).mono ?_
  intro e1 w1 hm
  obtain rfl := hm.1
  have ch1 : Hid (Chain w0 w0.heap.size w0.heap.size room [] w1) := hm.chain (below_draws (Below.refl w0.heap.size w0) q3)
  have hz1 : Hid (w0.heap.size < w1.heap.size) := ch1.out.lt
  clear hm hq2 hf
  go_wp2
  have hpl0 : Hid (Pl w0 w1.heap.size room w0.heap.size w0.heap.size [] none 0 (w1.alloc (.cells #[.slice none 0 0, .int .i64 (room : Int)] 32))) := by
    have := hz1.out
    exact ⟨ch1.out.below ((Below.refl _ _).alloc (Nat.le_refl _) _), ⟨Rd.nil _ _ _, Nat.le_refl _, by simp⟩, Has.new _ _ _, by omega, by omega, by omega⟩
  generalize w1.heap.size = wb at hpl0 ⊢
  go_loopw [7, 10] (fun x i wr => ∃ k : Nat, k ≤ n ∧ i = .int .i64 k ∧ Ahead w0 wb room x wr) (fun _ i _ => n - (intOf i).toNat)
  case atStart => exact ⟨0, Nat.zero_le _, rfl, _, _, _, _, _, rfl, hpl0.out⟩
  case round =>
    obtain ⟨k, hk, rfl, g, r, l, PA, pc, rfl, hpl⟩ := hrel
    have hpl' := Lib.hid hpl
    clear hpl hpl0 ch1
    by_cases hlt : k < n
    · have hkl : k < ds.length := by have := hn'.out; omega
      obtain ⟨b, o, rfl, hS, hc⟩ := hds'.out.1 (by omega)
      obtain ⟨hcw, hcn, hca, hcb⟩ := hc k _ (List.getElem?_eq_getElem hkl)
      have hok := hds'.out.2 _ (List.getElem_mem hkl)
      have hsum := hall.out _ (List.getElem_mem hkl)
      generalize ds[k] = x at hcw hcn hca hcb hok hsum
      have hB1 := hpl'.out.ch.b
      have a0 : wr.drew.cell? ⟨wb, 0, none⟩ = some (.slice PA l.length pc) := hpl'.out.box.cell 0
      have a1 : wr.drew.cell? ⟨wb, 1, none⟩ = some (.int .i64 (room : Int)) := hpl'.out.box.cell 1
      have a2 : wr.drew.cell? ⟨b, o + k * 4, none⟩ = some (.int .i64 x.what) := (hB1.cell (p := ⟨b, o + k * 4, none⟩) hS).trans hcw
      have a3 : wr.drew.cell? ⟨b, o + k * 4 + 1, none⟩ = some (.int .i64 x.n) := (hB1.cell (p := ⟨b, o + k * 4 + 1, none⟩) hS).trans hcn
      have a4 : wr.drew.cell? ⟨b, o + k * 4 + 2, none⟩ = some (.slice x.a.A x.a.l.length x.a.c) := (hB1.cell (p := ⟨b, o + k * 4 + 2, none⟩) hS).trans hca
      have a5 : wr.drew.cell? ⟨b, o + k * 4 + 3, none⟩ = some (.slice x.b.A x.b.l.length x.b.c) := (hB1.cell (p := ⟨b, o + k * 4 + 3, none⟩) hS).trans hcb
      have hact := Lib.hid (act_pl0 hpl'.out ((Below.refl wr.heap.size wr).drew) hok hsum)
      have hki : (0 : Int) ≤ (k : Int) := by omega
      have hkn : (k : Int) < (n : Int) := by omega
      clear hcw hcn hca hcb hok hsum hc hS hkl hB1
      go_wp2
      go_region_with (first
        | (go_at_call 11; refine hact.out.mono ?_; rintro e w3 ⟨g', r', l', p', rfl, hQ3, hr3, hl3, hF3, hT3, hgr⟩
           have hbx4 : Has w3 wb _ _ := (hT3.block wb hpl'.out.box.lt hpl'.out.neg hpl'.out.ner).trans hpl'.out.box.drew
           have d0 : w3.cell? ⟨wb, 0, none⟩ = some (.slice PA l.length pc) := hbx4.cell 0
           have d1 : w3.cell? ⟨wb, 1, none⟩ = some (.int .i64 (room : Int)) := hbx4.cell 1
           have f0 : w3.frozen? ⟨wb, 0, none⟩ = false := hbx4.free 0
           have f1 : w3.frozen? ⟨wb, 1, none⟩ = false := hbx4.free 1
           have hend := Lib.hid ((hpl'.out.below (Below.refl wr.heap.size wr).drew).acted hQ3 hr3 hl3 hF3 hT3 hgr)
           simp only [refVal]
           clear hQ3 hr3 hF3 hT3 hgr hbx4)
        | fail)
      all_goals
        go_wp2
        exact ⟨⟨k + 1, by omega, by go_num, _, _, _, _, _, rfl, hend.out⟩, by simp [intOf]; omega⟩
    · obtain rfl : k = n := by omega
      have hcp := Lib.hid (copy_any g r room l wr hpl'.out.ch.q)
      go_wp2_with fail
      refine hcp.out.mono ?_
      rintro e1 w2 ⟨g2, r2, rfl, hQ2, hg2, hr2, hr2l, hB2⟩
      have hpl2 := hpl'.out.below hB2
      have hX2 : ∀ k, (k = g2 ∨ k = r2) → k < w2.heap.size := fun k hk => by have := hQ2.lt; omega
      have hf2 : Fine w2 (OffX (fun k => k = g2 ∨ k = r2) w2 g r) ⟨PA, l, pc⟩ := (hpl'.out.fine.kept (Kept.below hB2 (fun k hk => hk.1.1))).mono (fun k hk => by have := hk.1.1; have := hB2.size; exact ⟨by omega, hk.1.2.1, hk.1.2.2, by omega⟩)
      have hact := Lib.hid (act_chain (d := d) (fun k => k = g2 ∨ k = r2) hpl2.ch hf2 hX2 hd'.out hsd.out)
      have hfin := Lib.hid (fun (W' : World) (g' r' : Nat) (l' : List UInt8) (p' : Part) => pair1_of (W' := W') (g' := g') (r' := r') (l' := l') (p' := p') hpl'.out hQ2 hg2 hr2 hr2l hB2)
      have hbw := hpl2.ch.b
      have a0 : w2.cell? ⟨wb, 0, none⟩ = some (.slice PA l.length pc) := hpl2.box.cell 0
      have a1 : w2.cell? ⟨wb, 1, none⟩ = some (.int .i64 (room : Int)) := hpl2.box.cell 1
      have hb2 := hbx.out.below hbw hz'.out
      have b0 : w2.cell? ⟨w.heap.size, 0, none⟩ = some (.int .i64 d.what) := hb2.cell 0
      have b1 : w2.cell? ⟨w.heap.size, 1, none⟩ = some (.int .i64 d.n) := hb2.cell 1
      have b2 : w2.cell? ⟨w.heap.size, 2, none⟩ = some (.slice d.a.A d.a.l.length d.a.c) := hb2.cell 2
      have b3 : w2.cell? ⟨w.heap.size, 3, none⟩ = some (.slice d.b.A d.b.l.length d.b.c) := hb2.cell 3
      clear hcp hpl2 hX2 hf2 hQ2 hg2 hr2 hr2l hB2 hbw hb2 hpl' hds' hall
      go_wp2_with fail
      refine hact.out.mono ?_
      rintro e1 w3 ⟨g3, r3, l3, p3, rfl, hQ3, hr3, hl3, hF3, hT3, hgr3⟩
      have hP := Lib.hid (hfin.out w3 g3 r3 l3 p3 hQ3 hr3 hl3 hF3 hT3 hgr3)
      subst hl3
      simp only [refVal]
      clear hfin hact hQ3 hr3 hF3 hT3 hgr3 a0 a1 b0 b1 b2 b3
      have hbw := hP.out.hq.b
      have hb2 := hbx.out.below hbw hz'.out
      have a0 : (w3.alloc (.cells #[.slice p3.A p3.l.length p3.c, .int .i64 (room : Int)] 32)).cell? ⟨wb, 0, none⟩ = some (.slice PA l.length pc) := hP.out.old.cell 0
      have a1 : (w3.alloc (.cells #[.slice p3.A p3.l.length p3.c, .int .i64 (room : Int)] 32)).cell? ⟨wb, 1, none⟩ = some (.int .i64 (room : Int)) := hP.out.old.cell 1
      have b0 : (w3.alloc (.cells #[.slice p3.A p3.l.length p3.c, .int .i64 (room : Int)] 32)).cell? ⟨w.heap.size, 4, none⟩ = some (.int .i64 e.what) := hb2.cell 4
      have b1 : (w3.alloc (.cells #[.slice p3.A p3.l.length p3.c, .int .i64 (room : Int)] 32)).cell? ⟨w.heap.size, 5, none⟩ = some (.int .i64 e.n) := hb2.cell 5
      have b2 : (w3.alloc (.cells #[.slice p3.A p3.l.length p3.c, .int .i64 (room : Int)] 32)).cell? ⟨w.heap.size, 6, none⟩ = some (.slice e.a.A e.a.l.length e.a.c) := hb2.cell 6
      have b3 : (w3.alloc (.cells #[.slice p3.A p3.l.length p3.c, .int .i64 (room : Int)] 32)).cell? ⟨w.heap.size, 7, none⟩ = some (.slice e.b.A e.b.l.length e.b.c) := hb2.cell 7
      have hact := Lib.hid (act_chain (d := e) (fun _ => False) hP.out.hc (hP.out.y.mono (fun k hk => ⟨hk.1, hk.2.1, hk.2.2, fun h => h⟩)) (fun k hk => hk.elim) he'.out hse.out)
      clear hbw hb2
      go_wp2_with fail
      refine hact.out.mono ?_
      clear a0 a1 b0 b1 b2 b3 hact
      generalize (w3.alloc (.cells #[.slice p3.A p3.l.length p3.c, .int .i64 (room : Int)] 32)) = w4 at hP
      generalize w3.heap.size = zb at hP ⊢
      rintro e1 w5 ⟨g5, r5, l5, p5, rfl, hQ5, hr5, hl5, hF5, hT5, hgr5⟩
      have hPP := Lib.hid (pair2_of hP.out hQ5 hr5 hl5 hF5 hT5 hgr5)
      subst hl5
      simp only [refVal]
      clear hP hQ5 hr5 hF5 hT5 hgr5
      have x0 : (w5.alloc (.cells #[.slice p5.A p5.l.length p5.c, .int .i64 (room : Int)] 32)).cell? ⟨zb, 0, none⟩ = some (.slice p3.A p3.l.length p3.c) := hPP.out.box.cell 0
      have tx := hPP.out.x.1.text 30 9 5 p3.c Tryd.underlying30 Tryd.underlying5 Tryd.underlying9
      have ty := hPP.out.y.1.text 30 9 5 p5.c Tryd.underlying30 Tryd.underlying5 Tryd.underlying9
      go_wp2_with fail
      clear x0 tx ty
      generalize (w5.alloc (.cells #[.slice p5.A p5.l.length p5.c, .int .i64 (room : Int)] 32)) = w6 at hPP ⊢
      generalize w5.heap.size = zb2 at hPP ⊢
      generalize hbb : (p3.l == p5.l) = bb
      have hbb1 := Lib.hid hbb
      have hbb2 : Hid ((p5.l == p3.l) = bb) := by
        show _ = _
        rw [← hbb]
        exact Bool.beq_comm
      clear hbb
      have hhalf : ((room : Int) / 2) = ((room / 2 : Nat) : Int) := by omega
      rw [hhalf]
      refine (new_ok (room / 2) w6 (hT'.out.below hPP.out.hq.b hT'.out.lt) (by omega)).mono ?_
      intro e1 w7 hm
      obtain rfl := hm.1
      have hP7 := Lib.hid (hPP.out.below hm.2.2.1)
      have ho7 := Lib.hid (hm.chain hPP.out.hq.b)
      clear hm hPP hhalf
      generalize w6.heap.size = go at ho7 ⊢
      have hlen := hP7.out.hq.q.small.1
      have hlen' := Lib.hid hlen
      by_cases hr0 : room = 0
      · have hr1 : ((room : Int) == 0) = true := by rw [beq_iff_eq]; omega
        have hr2 : ((p3.l.length : Int) == 0) = true := by rw [beq_iff_eq]; omega
        have hso : Hid (∀ w', Calls Tryd.prog 14 #[.pointer (some ⟨g3, 0, none⟩), .pointer (some ⟨go, 0, none⟩)] w' (fun e w'' => e = .returned (.bool (decide (room = room / 2 ∧ [] = p3.l))) ∧ Below w'.heap.size w' w'') → Calls Tryd.prog 14 #[.pointer (some ⟨g3, 0, none⟩), .pointer (some ⟨go, 0, none⟩)] w' (fun e w'' => e = .returned (.bool true) ∧ Below w'.heap.size w' w'')) := fun w' h => by rw [← (decide_eq_true ⟨by omega, (List.eq_nil_of_length_eq_zero (by omega)).symm⟩ : decide (room = room / 2 ∧ [] = p3.l) = true)]; exact h
        have a0 : w7.cell? ⟨zb, 0, none⟩ = some (.slice p3.A p3.l.length p3.c) := hP7.out.box.cell 0
        have a1 : w7.cell? ⟨zb, 1, none⟩ = some (.int .i64 (room : Int)) := hP7.out.box.cell 1
        have hr0' := Lib.hid hr0
        clear hr0 hlen
        go_wp2_with (first | (go_at_call 10; refine (num_any _ _).mono ?_; rintro e w' ⟨rfl, rfl⟩) | fail)
        refine (is_any g3 r3 room p3.l p3.A p3.c (· < w7.heap.size) 99999 w7 hP7.out.hq.q hP7.out.x (fun k hk => hk) (by omega)).mono ?_
        rintro e1 w8 ⟨rfl, hB8⟩
        have hP8 := Lib.hid (hP7.out.below hB8)
        have ho8 := Lib.hid (ho7.out.below hB8)
        have b0 : w8.cell? ⟨zb2, 0, none⟩ = some (.slice p5.A p5.l.length p5.c) := hP8.out.box2.cell 0
        have b1 : w8.cell? ⟨zb2, 1, none⟩ = some (.int .i64 (room : Int)) := hP8.out.box2.cell 1
        clear hB8 a0 a1
        go_wp2_with fail
        refine (is_any g5 r5 room p5.l p5.A p5.c (· < w8.heap.size) 99999 w8 hP8.out.hc.q hP8.out.y (fun k hk => hk) (by omega)).mono ?_
        rintro e1 w9 ⟨rfl, hB9⟩
        have hP9 := Lib.hid (hP8.out.below hB9)
        have ho9 := Lib.hid (ho8.out.below hB9)
        clear hB9 b0 b1 hP8 ho8 hP7 ho7
        go_wp2_with fail
        refine (same_bb hP9.out.hq.q hP9.out.hc.q hP9.out.hq.lt hbb1.out).mono ?_
        rintro e1 w10 ⟨rfl, hB10⟩
        have hP10 := Lib.hid (hP9.out.below hB10)
        have ho10 := Lib.hid (ho9.out.below hB10)
        have hbe : (bb == bb) = true := by simp
        clear hB10 hP9 ho9
        go_wp2_with fail
        refine (same_bb hP10.out.hc.q hP10.out.hq.q hP10.out.hc.lt hbb2.out).mono ?_
        rintro e1 w11 ⟨rfl, hB11⟩
        have hP11 := Lib.hid (hP10.out.below hB11)
        have ho11 := Lib.hid (ho10.out.below hB11)
        clear hB11 hP10 ho10
        go_wp2_with fail
        refine (hso.out w11 (same_any g3 r3 room go go (room / 2) p3.l [] w11 hP11.out.hq.q ho11.out.q hP11.out.hq.lt)).mono ?_
        rintro e1 w12 ⟨rfl, hB12⟩
        have hP12 := Lib.hid (hP11.out.below hB12)
        have a0 : w12.cell? ⟨zb, 0, none⟩ = some (.slice p3.A p3.l.length p3.c) := hP12.out.box.cell 0
        clear hB12 hP11 ho11
        go_wp2_with (first | (go_at_call 8; refine (works_any _ (hT'.out.below hP12.out.hq.b hT'.out.lt)).mono ?_; rintro e w13 ⟨rfl, hb⟩) | fail)
        go_ret
        exact ⟨rfl, hB'.out.trans ((hP12.out.hq.b.trans (hb.mono hP12.out.hq.b.size)).mono (Nat.le_of_lt hz'.out))⟩
      · have hr1 : ((room : Int) == 0) = false := by rw [beq_eq_false_iff_ne]; omega
        have hso : Hid (∀ w', Calls Tryd.prog 14 #[.pointer (some ⟨g3, 0, none⟩), .pointer (some ⟨go, 0, none⟩)] w' (fun e w'' => e = .returned (.bool (decide (room = room / 2 ∧ [] = p3.l))) ∧ Below w'.heap.size w' w'') → Calls Tryd.prog 14 #[.pointer (some ⟨g3, 0, none⟩), .pointer (some ⟨go, 0, none⟩)] w' (fun e w'' => e = .returned (.bool false) ∧ Below w'.heap.size w' w'')) := fun w' h => by rw [← (decide_eq_false (fun h => by have := h.1; omega) : decide (room = room / 2 ∧ [] = p3.l) = false)]; exact h
        have a0 : w7.cell? ⟨zb, 0, none⟩ = some (.slice p3.A p3.l.length p3.c) := hP7.out.box.cell 0
        have a1 : w7.cell? ⟨zb, 1, none⟩ = some (.int .i64 (room : Int)) := hP7.out.box.cell 1
        have hr0' := Lib.hid hr0
        clear hr0 hlen
        go_wp2_with (first | (go_at_call 10; refine (num_any _ _).mono ?_; rintro e w' ⟨rfl, rfl⟩) | fail)
        refine (is_any g3 r3 room p3.l p3.A p3.c (· < w7.heap.size) 99999 w7 hP7.out.hq.q hP7.out.x (fun k hk => hk) (by omega)).mono ?_
        rintro e1 w8 ⟨rfl, hB8⟩
        have hP8 := Lib.hid (hP7.out.below hB8)
        have ho8 := Lib.hid (ho7.out.below hB8)
        have b0 : w8.cell? ⟨zb2, 0, none⟩ = some (.slice p5.A p5.l.length p5.c) := hP8.out.box2.cell 0
        have b1 : w8.cell? ⟨zb2, 1, none⟩ = some (.int .i64 (room : Int)) := hP8.out.box2.cell 1
        clear hB8 a0 a1
        go_wp2_with fail
        refine (is_any g5 r5 room p5.l p5.A p5.c (· < w8.heap.size) 99999 w8 hP8.out.hc.q hP8.out.y (fun k hk => hk) (by omega)).mono ?_
        rintro e1 w9 ⟨rfl, hB9⟩
        have hP9 := Lib.hid (hP8.out.below hB9)
        have ho9 := Lib.hid (ho8.out.below hB9)
        clear hB9 b0 b1 hP8 ho8 hP7 ho7
        go_wp2_with fail
        refine (same_bb hP9.out.hq.q hP9.out.hc.q hP9.out.hq.lt hbb1.out).mono ?_
        rintro e1 w10 ⟨rfl, hB10⟩
        have hP10 := Lib.hid (hP9.out.below hB10)
        have ho10 := Lib.hid (ho9.out.below hB10)
        have hbe : (bb == bb) = true := by simp
        clear hB10 hP9 ho9
        go_wp2_with fail
        refine (same_bb hP10.out.hc.q hP10.out.hq.q hP10.out.hc.lt hbb2.out).mono ?_
        rintro e1 w11 ⟨rfl, hB11⟩
        have hP11 := Lib.hid (hP10.out.below hB11)
        have ho11 := Lib.hid (ho10.out.below hB11)
        clear hB11 hP10 ho10
        go_wp2_with fail
        refine (hso.out w11 (same_any g3 r3 room go go (room / 2) p3.l [] w11 hP11.out.hq.q ho11.out.q hP11.out.hq.lt)).mono ?_
        rintro e1 w12 ⟨rfl, hB12⟩
        have hP12 := Lib.hid (hP11.out.below hB12)
        have a0 : w12.cell? ⟨zb, 0, none⟩ = some (.slice p3.A p3.l.length p3.c) := hP12.out.box.cell 0
        clear hB12 hP11 ho11
        go_wp2_with (first | (go_at_call 8; refine (works_any _ (hT'.out.below hP12.out.hq.b hT'.out.lt)).mono ?_; rintro e w13 ⟨rfl, hb⟩) | fail)
        go_ret
        exact ⟨rfl, hB'.out.trans ((hP12.out.hq.b.trans (hb.mono hP12.out.hq.b.size)).mono (Nat.le_of_lt hz'.out))⟩
end Go.Proofs.YtfblkfjjpnnhhaaDoor
