import Derived.Test.YtbmemkbfignlaaaGreatDoorPk45
import Derived.Test.YtbmemkbfignlaaaGreatDoorPk18
namespace Go.Proofs.YtbmemkbfignlaaaGreatDoor
open Go.RowKit Go.Shelf
attribute [local go_sem] Oper.semAt_some
attribute [local go_sem] wideF_fn wideF_depth wideF_round

/-! ## A request of a look, where nothing asks for the connection's end -/
set_option maxRecDepth 100000 in
theorem sought_none (A : Option Addr) (c : Nat) (w : World) : Calls Tryz.prog 88 #[.func (.func 89) #[] #[], .slice A 0 c] w fun e w' => e = .returned (.bool false) ∧ w' = w := by
  go_enter Tryz.func88, Tryz.ntmps88
  go_wp2
  go_loopw [6, 9] (fun _ x W => x = .int .i64 0 ∧ W = w) (fun _ _ _ => 0)
  case atStart => exact ⟨rfl, rfl⟩
  case round =>
    obtain ⟨rfl, rfl⟩ := hrel
    go_wp2
    go_ret
    exact ⟨rfl, rfl⟩
set_option maxRecDepth 100000 in
theorem closes_none (b : Nat) (L : Rr.Lk) (w : World) (h : LkE w b L) (hF : FewLk L) (hT : TabT w) (hc : Rr.vals Rr.connL L.l = []) :
    Calls Tryz.prog 68 #[.pointer (some ⟨b, 0, none⟩)] w fun e w' => e = .returned (.bool false) ∧ Below w.heap.size w w' := by
  have hv := Lib.hid (show Calls Tryz.prog 66 #[.pointer (some ⟨b, 0, none⟩), .string ⟨#[99, 111, 110, 110, 101, 99, 116, 105, 111, 110]⟩] w fun e w' => e = .returned (.tuple #[.string ⟨#[]⟩, .int .i64 0]) ∧ Below w.heap.size w w' from by
    have := values_any b L Rr.connL w h hF (by decide)
    rw [hc] at this
    exact this)
  have hi := Lib.hid (fun W (hb : Below w.heap.size w W) => show Calls Tryz.prog 91 #[.string ⟨#[]⟩] W fun e w' => (∃ A c, e = .returned (.slice A 0 c)) ∧ Below W.heap.size W w' from by
    refine (items_any [] W (by decide) (hT.below hb).2).mono ?_
    rintro e w' ⟨v, rfl, hv, hb⟩
    obtain ⟨A, c, rfl, -⟩ := hv.sl
    exact ⟨⟨A, c, rfl⟩, hb⟩)
  have hs := Lib.hid (fun A c W => sought_none A c W)
  clear h hF hT hc
  go_enter Tryz.func68, Tryz.ntmps68
  go_wp2_with (first
    | (go_at_call 66; (with_reducible refine Calls.mono hv.out ?_); rintro e w2 ⟨rfl, hb2⟩; have hb2' := Lib.hid hb2; clear hb2)
    | (go_at_call 91; (with_reducible refine Calls.mono (hi.out _ hb2'.out) ?_); rintro e w3 ⟨⟨A3, c3, rfl⟩, hb3⟩; have hb3' := Lib.hid (below_on hb2'.out hb3); clear hb3)
    | (go_at_call 88; (with_reducible refine Calls.mono (hs.out _ _ _) ?_); rintro e w4 ⟨rfl, hw4⟩; obtain rfl := hw4.symm))
  go_ret
  exact ⟨rfl, hb3'.out⟩
/-- What a request is: flat. -/
def rqV (m : List UInt8) (A1 : Option Addr) (n1 c1 : Nat) (A2 : Option Addr) (n2 c2 : Nat) (old has close : Bool) (id : List UInt8) : Value :=
  .agg #[.string ⟨m.toArray⟩, .slice A1 n1 c1, .slice A2 n2 c2, .bool old, .bool has, .bool close, .string ⟨id.toArray⟩]
set_option maxRecDepth 100000 in
set_option maxHeartbeats 8000000 in
theorem request_any (n0 b : Nat) (L : Rr.Lk) (w : World) (hf0 : LkF w n0 b L) (hF : FewLk L) (hT : TabT w) (hv : (L.version == Rr.olderL) = false) (hc : Rr.vals Rr.connL L.l = []) :
    Calls Tryz.prog 40 #[.pointer (some ⟨b, 0, none⟩)] w fun e w' =>
      (∃ A1 c1 A2 c2, e = .returned (rqV L.method A1 L.t.1.length c1 A2 L.t.2.length c2 false (decide (0 < (Rr.vals Rr.lidL L.l).length)) false (Rr.joinL (Rr.vals Rr.lidL L.l))) ∧ Txs w' A1 L.t.1 ∧ Prs w' A2 L.t.2 ∧ (∀ b o, A1 = some ⟨b, o, none⟩ → n0 ≤ b) ∧ (∀ b o, A2 = some ⟨b, o, none⟩ → n0 ≤ b)) ∧ Below w.heap.size w w' := by
  have h := hf0.lk
  obtain ⟨n, hn⟩ : ∃ n, w.heap.size = n := ⟨_, rfl⟩
  obtain ⟨w1, hw1⟩ : ∃ w1, w.alloc (.cells #[.string ⟨#[]⟩, .slice none 0 0, .slice none 0 0, .bool false, .bool false, .bool false, .string ⟨#[]⟩] 34) = w1 := ⟨_, rfl⟩
  have hB1 : Below w.heap.size w w1 := by rw [← hw1]; exact (Below.refl _ _).alloc (Nat.le_refl _) _
  have z0 : Has w1 n 34 #[.string ⟨#[]⟩, .slice none 0 0, .slice none 0 0, .bool false, .bool false, .bool false, .string ⟨#[]⟩] := by rw [← hw1, ← hn]; exact Has.new _ _ _
  have hvl := Lib.hid (show Calls Tryz.prog 66 #[.pointer (some ⟨b, 0, none⟩), .string ⟨#[108, 97, 115, 116, 45, 101, 118, 101, 110, 116, 45, 105, 100]⟩] w1 fun e w' => e = .returned (.tuple #[.string ⟨(Rr.joinL (Rr.vals Rr.lidL L.l)).toArray⟩, .int .i64 ((Rr.vals Rr.lidL L.l).length : Int)]) ∧ Below w1.heap.size w1 w' from values_any b L Rr.lidL w1 (h.below hB1) hF (by decide))
  have hk := Lib.hid (fun W (hb : Below w.heap.size w W) => h.below hb)
  have hTW := Lib.hid (fun W (hb : Below w.heap.size w W) => hT.below hb)
  have hml := hF.method
  obtain ⟨A, c, B1, c1, B2, c2, g1, -, g3, g4, g5⟩ := hf0.box
  have hg5 := Lib.hid g5
  have hbx := Lib.hid g1
  have hg3 := Lib.hid g3
  have hg4 := Lib.hid g4
  have hd : decide (0 < (Rr.vals Rr.lidL L.l).length) = decide ((0 : Int) < ((Rr.vals Rr.lidL L.l).length : Int)) := by rw [decide_eq_decide]; omega
  rw [hd]
  generalize Rr.joinL (Rr.vals Rr.lidL L.l) = id at *
  generalize ((Rr.vals Rr.lidL L.l).length : Int) = m at *
  have hB1' := Lib.hid hB1
  have z0' := Lib.hid z0
  have hF' := Lib.hid hF
  have hc' := Lib.hid hc
  have hv' := Lib.hid hv
  clear h hf0 hF hT g1 g3 g4 g5 hB1 z0 hd hc hv
  unfold rqV
  go_enter Tryz.func40, Tryz.ntmps40
  go_upto_region 2 with (go_at_call 66; (with_reducible refine Calls.mono hvl.out ?_); rintro e w2 ⟨rfl, hb2⟩; have hb2' := Lib.hid (below_on hB1'.out hb2); have z2 := Lib.hid (z0'.out.below hb2 z0'.out.lt); clear hb2)
  have hbx2 := hbx.out.below hb2'.out hbx.out.lt
  have x2 := fun (V' : Grown w2) => (hbx2.below V'.below hbx2.lt).cell 2
  have x4 := fun (V' : Grown w2) => (hbx2.below V'.below hbx2.lt).cell 4
  have x5 := fun (V' : Grown w2) => (hbx2.below V'.below hbx2.lt).cell 5
  have hL2 : ∀ V' : Grown w2, Below w.heap.size w V'.v := fun V' => below_on hb2'.out V'.below
  have t1 := Lib.hid (fun (V' : Grown w2) => callsIn_wide (n := 5 - 1).2 (grow_call V' (show Calls Tryz.prog 56 #[.string ⟨L.method.toArray⟩] V'.v fun e w' => e = .returned (.string ⟨L.method.toArray⟩) ∧ Below V'.v.heap.size V'.v w' from cloneS_any ⟨L.method.toArray⟩ V'.v (by show L.method.length ≤ _; omega))))
  have t2 := Lib.hid (fun (V' : Grown w2) => callsIn_wide (n := 5 - 1).2 (grow_call V' (show Calls Tryz.prog 67 #[.pointer (some ⟨b, 0, none⟩)] V'.v fun e w' => e = .returned (.bool false) ∧ Below V'.v.heap.size V'.v w' from (isOld_any b L V'.v (hk.out _ (hL2 V'))).mono fun e w' ⟨h1, h2⟩ => ⟨by rw [h1, hv'.out], by rw [h2]; exact Below.refl _ _⟩)))
  have t3 := Lib.hid (fun (V' : Grown w2) => callsIn_wide (n := 5 - 1).2 (grow_call V' (show Calls Tryz.prog 68 #[.pointer (some ⟨b, 0, none⟩)] V'.v fun e w' => e = .returned (.bool false) ∧ Below V'.v.heap.size V'.v w' from closes_none b L V'.v (hk.out _ (hL2 V')) hF'.out (hTW.out _ (hL2 V')) hc'.out)))
  clear hbx2 hL2 hml
  refine (wpIn_wide (n := 5)).1 ?_
  try dsimp only
  refine wpIn_region_grow_tail 21 (by kernel_rfl) (by kernel_rfl) (by kernel_rfl) ?_
  simp only [List.take_succ_cons, List.take_zero, List.drop_succ_cons, List.drop_zero]
  iterate 21 (gi_big_quiet_step (first
    | (gi_at_call 56; exact t1.out _)
    | (gi_at_call 67; exact t2.out _)
    | (gi_at_call 68; exact t3.out _)))
  refine wpQuietIn_nil ?_
  intro _ hw'
  obtain ⟨V', hw''⟩ := hw'
  subst hw''
  have zV := z2.out.below V'.below z2.out.lt
  have e0 := zV.cell 0
  have f0 := zV.free 0
  have e1 := zV.cell 1
  have f1 := zV.free 1
  have e2 := zV.cell 2
  have f2 := zV.free 2
  have e3 := zV.cell 3
  have f3 := zV.free 3
  have e4 := zV.cell 4
  have f4 := zV.free 4
  have e5 := zV.cell 5
  have f5 := zV.free 5
  have e6 := zV.cell 6
  have f6 := zV.free 6
  have kf := (((((((zV.put 0 (.string ⟨L.method.toArray⟩)).put 1 (.slice B1 L.t.1.length c1)).put 2 (.slice B2 L.t.2.length c2)).put 3 (.bool false)).put 4 (.bool (decide (0 < m)))).put 5 (.bool false)).put 6 (.string ⟨id.toArray⟩))
  have hbV' := Lib.hid (show Below n w V'.v by rw [← hn]; exact below_on hb2'.out V'.below)
  have zV' := Lib.hid zV
  clear zV
  gi_wp2
  obtain ⟨wf, hwf⟩ : ∃ wf, (((((((V'.v.setCell ⟨n, 0, none⟩ (.string ⟨L.method.toArray⟩)).setCell ⟨n, 1, none⟩ (.slice B1 L.t.1.length c1)).setCell ⟨n, 2, none⟩ (.slice B2 L.t.2.length c2)).setCell ⟨n, 3, none⟩ (.bool false)).setCell ⟨n, 4, none⟩ (.bool (decide (0 < m)))).setCell ⟨n, 5, none⟩ (.bool false)).setCell ⟨n, 6, none⟩ (.string ⟨id.toArray⟩)) = wf := ⟨_, rfl⟩
  have hBf : Below n w wf := by rw [← hwf]; exact (((((((hbV'.out.setCell (p := ⟨n, 0, none⟩) (by show n ≤ n; omega) _).setCell (p := ⟨n, 1, none⟩) (by show n ≤ n; omega) _).setCell (p := ⟨n, 2, none⟩) (by show n ≤ n; omega) _).setCell (p := ⟨n, 3, none⟩) (by show n ≤ n; omega) _).setCell (p := ⟨n, 4, none⟩) (by show n ≤ n; omega) _).setCell (p := ⟨n, 5, none⟩) (by show n ≤ n; omega) _).setCell (p := ⟨n, 6, none⟩) (by show n ≤ n; omega) _)
  rw [hwf] at kf
  have y0 : wf.cell? ⟨n, 0, none⟩ = some (.string ⟨L.method.toArray⟩) := by have := kf.cell 0; simpa using this
  have y1 : wf.cell? ⟨n, 1, none⟩ = some (.slice B1 L.t.1.length c1) := by have := kf.cell 1; simpa using this
  have y2 : wf.cell? ⟨n, 2, none⟩ = some (.slice B2 L.t.2.length c2) := by have := kf.cell 2; simpa using this
  have y3 : wf.cell? ⟨n, 3, none⟩ = some (.bool false) := by have := kf.cell 3; simpa using this
  have y4 : wf.cell? ⟨n, 4, none⟩ = some (.bool (decide (0 < m))) := by have := kf.cell 4; simpa using this
  have y5 : wf.cell? ⟨n, 5, none⟩ = some (.bool false) := by have := kf.cell 5; simpa using this
  have y6 : wf.cell? ⟨n, 6, none⟩ = some (.string ⟨id.toArray⟩) := by have := kf.cell 6; simpa using this
  try rw [hwf]
  go_wp2
  refine bodyPost_ret (v := .agg #[.string ⟨L.method.toArray⟩, .slice B1 L.t.1.length c1, .slice B2 L.t.2.length c2, .bool false, .bool (decide (0 < m)), .bool false, .string ⟨id.toArray⟩]) (by simp [results, Tryz.results40, go_sem, y0, y1, y2, y3, y4, y5, y6]) rfl ?_
  have hBw : Below w.heap.size w wf := by rw [hn]; exact hBf
  exact ⟨⟨B1, c1, B2, c2, rfl, hg3.out.below hBw, hg4.out.below hBw, hg5.out⟩, hBw⟩
end Go.Proofs.YtbmemkbfignlaaaGreatDoor
