import Derived.Test.YtabgpnieekcdhaaDoorAnI
import Derived.Test.YtabgpnieekcdhaaDoorAnL
namespace Go.Proofs.YtabgpnieekcdhaaDoor
open Go.RowKit Go.Shelf
attribute [local go_sem] Oper.semAt_some
attribute [local go_sem] wideF_fn wideF_depth wideF_round

/-! ## works; what is asked of plain answers, and of streams and health -/
def erO (o : Option (List UInt8)) : Int := if o.isSome = true then 0 else 2
def AnsF (o : Option (List UInt8)) (w : World) (e : Ending) (w' : World) : Prop :=
  (∃ A m c, e = .returned (.tuple #[.slice A m c, .int .i64 (erO o)]) ∧ ∀ W, Below w'.heap.size w' W → (convert 26 9 (.slice A m c)).run Tryd.prog W = .ok (.string ⟨(o.getD []).toArray⟩) W) ∧ Below w.heap.size w w'
theorem Bz.conv {w' : World} {n0 : Nat} {v : Value} {l : List UInt8} (h : Bz w' n0 v l) (W : World) (hW : Below w'.heap.size w' W) : (convert 26 9 v).run Tryd.prog W = .ok (.string ⟨l.toArray⟩) W := by
  obtain ⟨A, c, rfl, hr⟩ := (h.below hW).shape
  exact hr.text 26 9 5 c Tryd.underlying26 Tryd.underlying5 Tryd.underlying9
theorem AnsR.flat {o : Option (List UInt8)} {w : World} {e : Ending} {w' : World} (h : AnsR o w e w') : AnsF o w e w' := by
  obtain ⟨h, hb⟩ := h
  refine ⟨?_, hb⟩
  cases o with
  | none =>
    simp only at h
    refine ⟨none, 0, 0, h, fun W _ => ?_⟩
    exact (Rd.nil W (fun _ => True) none).text 26 9 5 0 Tryd.underlying26 Tryd.underlying5 Tryd.underlying9
  | some b =>
    simp only at h
    obtain ⟨v, rfl, hv⟩ := h
    obtain ⟨A, m, c, rfl, hv'⟩ := hv.opened
    exact ⟨A, m, c, rfl, hv'.conv⟩
theorem reasonV_flat (o : Option (List UInt8)) : reasonV o = .tuple #[.string ⟨(o.getD []).toArray⟩, .int .i64 (erO o)] := by cases o <;> rfl
theorem reason_flat (s : Int) (w : World) (hT : TabS w) : Calls Tryd.prog 8 #[.int .i64 s] w fun e w' => e = .returned (.tuple #[.string ⟨((An.reason s).getD []).toArray⟩, .int .i64 (erO (An.reason s))]) ∧ Below w.heap.size w w' := by
  have h := reason_any s w hT
  cases hr : An.reason s with
  | none => rw [hr] at h; exact h
  | some r => rw [hr] at h; exact h
theorem num14_any (n : Int) (w : World) : Calls Tryd.prog 14 #[.int .i64 n] w fun e w' => e = .returned (.int .i64 n) ∧ w' = w := by
  go_enter Tryd.func14, Tryd.ntmps14
  go_wp2
  go_ret
  exact ⟨rfl, rfl⟩
theorem dec405 : An.dec 405 = [52, 48, 53] := by
  rw [An.dec_of (K := 3) ⟨by omega, by decide, .inr (by decide)⟩]
  decide
theorem dec23 : An.dec 23 = [50, 51] := by
  rw [An.dec_of (K := 2) ⟨by omega, by decide, .inr (by decide)⟩]
  decide
theorem refusal405 : An.refusalO 405 = some ((([72, 84, 84, 80, 47, 49, 46, 49, 32, 52, 48, 53, 32, 77, 101, 116, 104, 111, 100, 32, 78, 111, 116, 32, 65, 108, 108, 111, 119, 101, 100, 13, 10].append [99, 111, 110, 116, 101, 110, 116, 45, 116, 121, 112, 101, 58, 32, 116, 101, 120, 116, 47, 112, 108, 97, 105, 110, 13, 10, 99, 111, 110, 116, 101, 110, 116, 45]).append ([108, 101, 110, 103, 116, 104, 58, 32, 50, 51, 13, 10, 97, 108, 108, 111, 119, 58, 32, 71, 69, 84, 13, 10, 99, 111, 110, 110, 101, 99, 116, 105, 111, 110].append [58, 32, 99, 108, 111, 115, 101, 13, 10, 13, 10, 52, 48, 53, 32, 109, 101, 116, 104, 111, 100, 32, 110, 111, 116, 32, 97, 108, 108, 111, 119, 101, 100, 10]))) := by
  have hr : An.reason 405 = some An.rs405 := An.reason_at (j := 3) (by omega)
  have ht : An.refusalT 405 An.rs405 = [52, 48, 53, 32, 109, 101, 116, 104, 111, 100, 32, 110, 111, 116, 32, 97, 108, 108, 111, 119, 101, 100] := by
    unfold An.refusalT
    rw [dec405]
    decide
  unfold An.refusalO
  rw [hr]
  simp only
  rw [if_neg (by decide)]
  show some (An.plainB 405 An.rs405 (An.refusalT 405 An.rs405)) = _
  rw [ht]
  unfold An.plainB An.firstT An.fieldsT
  rw [dec405, show ([52, 48, 53, 32, 109, 101, 116, 104, 111, 100, 32, 110, 111, 116, 32, 97, 108, 108, 111, 119, 101, 100] : List UInt8).length + 1 = 23 from rfl, dec23]
  decide +kernel
set_option maxRecDepth 100000 in
set_option maxHeartbeats 8000000 in
theorem works14_any (w : World) (hT : TabN w) : Calls Tryd.prog 7 #[] w (BoolR true w) := by
  unfold BoolR
  have h404 := fun W (hW : Below w.heap.size w W) => reason_any 404 W (hT.2.below hW)
  rw [show An.reason 404 = some An.rs404 from An.reason_at (j := 2) (by omega)] at h404
  have h418 := fun W (hW : Below w.heap.size w W) => reason_any 418 W (hT.2.below hW)
  rw [show An.reason 418 = none from rfl] at h418
  have r200 := fun W (hW : Below w.heap.size w W) => refusal_any 200 W (hT.below hW)
  rw [show An.refusalO 200 = none from by unfold An.refusalO; rw [show An.reason 200 = some An.rs200 from An.reason_at (j := 0) (by omega)]; rfl] at r200
  have r405 := fun W (hW : Below w.heap.size w W) => (refusal_any 405 W (hT.below hW)).mono (fun e w' h => AnsR.flat h)
  rw [refusal405] at r405
  unfold AnsR at r200
  unfold AnsF erO at r405
  simp only [Option.isSome_some, if_true, Option.getD_some] at h404 h418 r200 r405
  have h404' := Lib.hid (show ∀ W, Below w.heap.size w W → Calls Tryd.prog 8 #[.int .i64 404] W fun e w' => e = .returned (.tuple #[.string ⟨#[78, 111, 116, 32, 70, 111, 117, 110, 100]⟩, .int .i64 0]) ∧ Below W.heap.size W w' from h404)
  have h418' := Lib.hid h418
  have r200' := Lib.hid r200
  have r405' := Lib.hid r405
  have hn := Lib.hid (fun n W => num14_any n W)
  clear h404 h418 r200 r405 hT
  go_enter Tryd.func7, Tryd.ntmps7
  go_wp2_with (first
    | (go_at_call 8; (with_reducible refine Calls.mono (h404'.out _ (Below.refl _ _)) ?_); rintro e w2 ⟨rfl, hb2⟩; have hb2' := Lib.hid hb2; clear hb2)
    | (go_at_call 8; (with_reducible refine Calls.mono (h418'.out _ hb2'.out) ?_); rintro e w3 ⟨rfl, hb3⟩; have hb3' := Lib.hid (below_on hb2'.out hb3); clear hb3)
    | (go_at_call 10; (with_reducible refine Calls.mono (r200'.out _ hb3'.out) ?_); rintro e w4 ⟨rfl, hb4⟩; have hb4' := Lib.hid (below_on hb3'.out hb4); clear hb4)
    | (go_at_call 10; (with_reducible refine Calls.mono (r405'.out _ hb4'.out) ?_); rintro e w5 ⟨⟨A5, m5, c5, rfl, hc5⟩, hb5⟩; have hb5' := Lib.hid (below_on hb4'.out hb5); have hcv := hc5 w5 (Below.refl _ _); clear hb5 hc5)
    | (go_at_call 14; (with_reducible refine Calls.mono (hn.out _ _) ?_); rintro e w9 ⟨rfl, hw9⟩; obtain rfl := hw9.symm))
  go_ret
  exact ⟨rfl, hb5'.out⟩
set_option maxRecDepth 100000 in
set_option maxHeartbeats 8000000 in
theorem lawPlain (s : Int) (t : List UInt8) (w : World) (hT : TabN w) (ht : t.length ≤ 140737488355328) : Calls Tryd.prog 3 #[.int .i64 s, .string ⟨t.toArray⟩] w (BoolR true w) := by
  unfold BoolR
  have hwk := Lib.hid (fun W (hW : Below w.heap.size w W) => works14_any W (hT.below hW))
  have hn := Lib.hid (fun n W => num14_any n W)
  unfold BoolR at hwk
  by_cases hl : t.length ≤ 1100
  · have hli : ¬ (1100 : Int) < (t.length : Int) := by omega
    have h1 := Lib.hid (fun W (hW : Below w.heap.size w W) => reason_flat s W (hT.2.below hW))
    have h2 := Lib.hid (fun W (hW : Below w.heap.size w W) => (plainF_any s t W (hT.below hW) ht).mono (fun e w' h => AnsR.flat h))
    have h3 := Lib.hid (fun W (hW : Below w.heap.size w W) => (refusal_any s W (hT.below hW)).mono (fun e w' h => AnsR.flat h))
    have h4 := fun W => refReason_any s W
    have h5 := fun W => refPlain_any s t W ht
    have h6 := fun W => refRefusal_any s W
    simp only [reasonV_flat] at h4 h5 h6
    have h4' := Lib.hid h4
    have h5' := Lib.hid h5
    have h6' := Lib.hid h6
    unfold AnsF at h2 h3
    clear h4 h5 h6
    generalize erO (An.reason s) = e1 at *
    generalize (An.reason s).getD [] = b1 at *
    generalize erO (An.plainO s t) = e2 at *
    generalize (An.plainO s t).getD [] = b2 at *
    generalize erO (An.refusalO s) = e3 at *
    generalize (An.refusalO s).getD [] = b3 at *
    clear hT ht hl
    go_enter Tryd.func3, Tryd.ntmps3
    go_wp2_with (first
      | (go_at_call 8; (with_reducible refine Calls.mono (h1.out _ (Below.refl _ _)) ?_); rintro e w2 ⟨rfl, hb2⟩; have hb2' := Lib.hid hb2; clear hb2)
      | (go_at_call 9; (with_reducible refine Calls.mono (h2.out _ hb2'.out) ?_); rintro e w3 ⟨⟨A3, m3, c3, rfl, hc3⟩, hb3⟩; have hb3' := Lib.hid (below_on hb2'.out hb3); have hc3' := Lib.hid hc3; clear hb3 hc3)
      | (go_at_call 10; (with_reducible refine Calls.mono (h3.out _ hb3'.out) ?_); rintro e w4 ⟨⟨A4, m4, c4, rfl, hc4⟩, hb4⟩; have hb4' := Lib.hid (below_on hb3'.out hb4); have hx4 := Lib.hid hb4; have hc4' := Lib.hid hc4; clear hb4 hc4)
      | (go_at_call 11; (with_reducible refine Calls.mono (h4'.out _) ?_); rintro e w5 ⟨rfl, hb5⟩; have hb5' := Lib.hid (below_on hb4'.out hb5); have hx5 := Lib.hid hb5; clear hb5)
      | (go_at_call 12; (with_reducible refine Calls.mono (h5'.out _) ?_); rintro e w6 ⟨rfl, hb6⟩; have hb6' := Lib.hid (below_on hb5'.out hb6); have hx6 := Lib.hid (below_on hx5.out hb6); clear hb6)
      | (go_at_call 13; (with_reducible refine Calls.mono (h6'.out _) ?_); rintro e w7 ⟨rfl, hb7⟩; have hb7' := Lib.hid (below_on hb6'.out hb7); have cv4 := hc4'.out w7 (below_on hx6.out hb7); have cv3 := hc3'.out w7 (below_on hx4.out (below_on hx6.out hb7)); clear hb7)
      | (go_at_call 14; (with_reducible refine Calls.mono (hn.out _ _) ?_); rintro e w9 ⟨rfl, hw9⟩; obtain rfl := hw9.symm)
      | (go_at_call 7; (with_reducible refine Calls.mono (hwk.out _ hb7'.out) ?_); rintro e w8 ⟨rfl, hb8⟩; have hb8' := Lib.hid (below_on hb7'.out hb8); clear hb8))
    go_ret
    exact ⟨rfl, hb8'.out⟩
  · have hli : (1100 : Int) < (t.length : Int) := by omega
    clear hT
    go_enter Tryd.func3, Tryd.ntmps3
    go_wp2_with (go_at_call 7; (with_reducible refine Calls.mono (hwk.out _ (Below.refl _ _)) ?_); rintro e w8 ⟨rfl, hb8⟩; have hb8' := Lib.hid hb8; clear hb8)
    go_ret
    exact ⟨rfl, hb8'.out⟩
set_option maxRecDepth 100000 in
set_option maxHeartbeats 8000000 in
theorem lawStream (c : Bool) (a b : Int) (d : Bool) (w : World) (hT : TabN w) (ha : a ≤ 9223372036854775807) (hb : b ≤ 9223372036854775807) : Calls Tryd.prog 4 #[.bool c, .int .i64 a, .int .i64 b, .bool d] w (BoolR true w) := by
  unfold BoolR
  have hwk := Lib.hid (fun W (hW : Below w.heap.size w W) => works14_any W (hT.below hW))
  have hn := Lib.hid (fun n W => num14_any n W)
  unfold BoolR at hwk
  have h1 := Lib.hid ((health_any a b d w hT ha hb).mono (fun e w' h => AnsR.flat h))
  have h2 := fun W => refHealth_any a b d W ha hb
  simp only [reasonV_flat] at h2
  have h2' := Lib.hid h2
  have h3 := Lib.hid (fun W (hW : Below w.heap.size w W) => (streamF_any c W (hT.below hW)).mono (fun e w' (h : ∃ v, e = .returned v ∧ Bz w' W.heap.size v (An.streamB c) ∧ Below W.heap.size W w') => (show ∃ A m cc, e = .returned (.slice A m cc) ∧ (∀ W2, Below w'.heap.size w' W2 → (convert 26 9 (.slice A m cc)).run Tryd.prog W2 = .ok (.string ⟨(An.streamB c).toArray⟩) W2) ∧ Below W.heap.size W w' from by
    obtain ⟨v, rfl, hv, hb⟩ := h
    obtain ⟨A, m, cc, rfl, hv'⟩ := hv.opened
    exact ⟨A, m, cc, rfl, hv'.conv, hb⟩)))
  have h4 := Lib.hid (fun W => refStream_any c W)
  unfold StrR at h4
  unfold AnsF at h1
  clear h2
  generalize erO (An.healthO a b d) = e1 at *
  generalize (An.healthO a b d).getD [] = b1 at *
  generalize An.streamB c = b2 at *
  clear hT ha hb
  go_enter Tryd.func4, Tryd.ntmps4
  go_upto_region 3 with (first
    | (go_at_call 15; (with_reducible refine Calls.mono h1.out ?_); rintro e w2 ⟨⟨A2, m2, c2, rfl, hc2⟩, hb2⟩; have hb2' := Lib.hid hb2; have hc2' := Lib.hid hc2; clear hb2 hc2)
    | (go_at_call 16; (with_reducible refine Calls.mono (h2'.out _) ?_); rintro e w3 ⟨rfl, hb3⟩; have hb3' := Lib.hid (below_on hb2'.out hb3); have hx3 := Lib.hid hb3; clear hb3))
  have h3r := Lib.hid (h3.out w3.drew hb3'.out.drew)
  have hd3 := Lib.hid (hx3.out.drew)
  go_region_with (first
    | (go_at_call 17; (with_reducible refine Calls.mono h3r.out ?_); rintro e w4 ⟨A4, m4, c4, rfl, hc4, hb4⟩; have cv4 := hc4 w4 (Below.refl _ _); have hc4' := Lib.hid hc4; have hb4' := Lib.hid (below_on hb3'.out.drew hb4); have hx4 := Lib.hid (below_on hd3.out hb4); clear hc4 hb4)
    | (go_at_call 18; (with_reducible refine Calls.mono (h4.out _) ?_); rintro e w5 ⟨rfl, hb5⟩; have cv5 := hc4'.out w5 hb5; have cv6 := hc2'.out w5 (below_on hx4.out hb5); have hb5' := Lib.hid (below_on hb4'.out hb5); clear hb5)
    | (go_at_call 14; (with_reducible refine Calls.mono (hn.out _ _) ?_); rintro e w9 ⟨rfl, hw9⟩; obtain rfl := hw9.symm)
    | (go_at_call 7; (with_reducible refine Calls.mono (hwk.out _ hb5'.out) ?_); rintro e w8 ⟨rfl, hb8⟩; have hb8' := Lib.hid (below_on hb5'.out hb8); clear hb8))
  all_goals (
    go_wp2
    go_ret
    exact ⟨rfl, hb8'.out⟩)
end Go.Proofs.YtabgpnieekcdhaaDoor
