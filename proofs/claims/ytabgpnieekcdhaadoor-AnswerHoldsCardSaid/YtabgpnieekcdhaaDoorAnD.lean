import Derived.Test.YtabgpnieekcdhaaDoorAnC
import Derived.Deep.Cut
import Derived.Deep.RegionHeld3
namespace Go.Proofs.YtabgpnieekcdhaaDoor
open Go.RowKit Go.Shelf
attribute [local go_sem] Oper.semAt_some
attribute [local go_sem] wideF_fn wideF_depth wideF_round

/-! ## A plain answer under way -/
theorem nl_size (t : List UInt8) : ((⟨t.toArray⟩ : ByteArray) ++ ⟨#[10]⟩).size = t.length + 1 := by
  have e : ((⟨t.toArray⟩ : ByteArray) ++ ⟨#[10]⟩) = ⟨(t ++ [10]).toArray⟩ := app_str t [10]
  rw [e]
  show (t ++ [10]).toArray.size = _
  simp
set_option maxRecDepth 100000 in
set_option maxHeartbeats 8000000 in
theorem plain_any (s : Nat) (r t : List UInt8) (w : World) (hT : Tab w) (hs : s < 1000) (hr : r.length ≤ 1000) (ht : t.length ≤ 1000000) :
    Calls Tryd.prog 27 #[.int .i64 (s : Int), .string ⟨r.toArray⟩, .string ⟨t.toArray⟩] w fun e w' => ∃ u, e = .returned (.pointer (some ⟨u, 0, none⟩)) ∧ w.heap.size ≤ u ∧ UnB w' u (An.firstT s r) (An.fieldsT s (t.length + 1)) ⟨(t ++ [10]).toArray⟩ ∧ Below w.heap.size w w' := by
  have hbg := Lib.hid (begun_any s r w hT hs hr)
  have hfd := Lib.hid (fun a b W => fieldH_any a b W)
  obtain ⟨B, hB⟩ : ∃ B, (⟨t.toArray⟩ : ByteArray) ++ ⟨#[10]⟩ = B := ⟨_, rfl⟩
  have hBs : B.size = t.length + 1 := by rw [← hB]; exact nl_size t
  have hBe : Hid (B = ⟨(t ++ [10]).toArray⟩) := Lib.hid (by rw [← hB]; exact app_str t [10])
  have hdg := Lib.hid (fun W (hW : Tab W) => digits_any B.size (by omega) W hW)
  have hdl := Lib.hid (An.dec_len (x := t.length + 1) (by omega))
  rw [hBs] at hdg
  rw [show (((t.length + 1 : Nat) : Int)) = (t.length : Int) + 1 from rfl] at hdg
  unfold StrR at hdg
  have hfl : Hid (An.fieldsT s (t.length + 1) = [(An.ctypeL, An.plainT), (An.clenL, An.dec (t.length + 1))] ++ An.own s ++ [(An.connL, An.closeL)]) := Lib.hid rfl
  have hown := Lib.hid (An.own_len s)
  generalize An.fieldsT s (t.length + 1) = fl at *
  generalize An.dec (t.length + 1) = dg at *
  generalize An.firstT s r = f at *
  have hTW := Lib.hid (fun W (hW : Below w.heap.size w W) => hT.below hW)
  have hlt : ¬ 9223372036854775807 < t.length + 1 := by omega
  have hBsI : Hid ((B.size : Int) = ((t.length + 1 : Nat) : Int)) := Lib.hid (by rw [hBs])
  have hen := enters_of (P := Tryd.prog) Tryd.func40 (by kernel_rfl) rfl
  clear hT hr
  go_enter Tryd.func27, Tryd.ntmps27
  go_upto_region 2 with (go_at_call 39; (with_reducible refine Calls.mono hbg.out ?_); rintro e w2 ⟨u, rfl, hu, hU2, hb2⟩; have hU2' := Lib.hid hU2; have hb2' := Lib.hid hb2; have hu' := Lib.hid hu; clear hU2 hb2 hu)
  obtain ⟨v, z2, d2⟩ := hU2'.out
  obtain ⟨A, ca, rfl, -⟩ := d2.prs
  have c2 := z2.cell 2
  have f2 := z2.free 2
  have z2' := Lib.hid z2
  have d2' := Lib.hid d2
  clear z2 d2
  go_upto_region 4 with (fail)
  obtain ⟨w3, hw3⟩ : ∃ w3, w2.setCell ⟨u, 2, none⟩ (.string B) = w3 := ⟨_, rfl⟩
  have hz3 : w3.heap.size = w2.heap.size := by rw [← hw3]; simp [World.setCell]
  have z3 : Has w3 u 83 #[.string ⟨f.toArray⟩, .slice A ([] : List PairL).length ca, .string B] := by rw [← hw3]; simpa using z2'.out.put 2 (.string B)
  have hU3 : UnB w3 u f [] B := ⟨_, z3, by rw [← hw3]; exact d2'.out.set (show u < u + 1 by omega) 2 (.string B)⟩
  have hB3 : Below w.heap.size w w3 := by rw [← hw3]; exact hb2'.out.setCell (p := ⟨u, 2, none⟩) hu'.out _
  have hul : u < w3.heap.size := by rw [hz3]; exact z2'.out.lt
  rw [hw3]
  clear hw3 c2 f2
  have e3 : w3.cell? ⟨u, 2, none⟩ = some (.string B) := z3.cell 2
  have ed3 : w3.drew.cell? ⟨u, 2, none⟩ = some (.string B) := z3.cell 2
  have hU3' := Lib.hid (hU3.below (Below.refl _ _).drew)
  have hB3' := Lib.hid hB3.drew
  have hul' : u < w3.drew.heap.size := hul
  have t1 := Lib.hid (fun W => hfd.out ⟨#[99, 111, 110, 116, 101, 110, 116, 45, 116, 121, 112, 101]⟩ ⟨#[116, 101, 120, 116, 47, 112, 108, 97, 105, 110]⟩ W)
  have t3 := Lib.hid (fun W => hfd.out ⟨#[99, 111, 110, 116, 101, 110, 116, 45, 108, 101, 110, 103, 116, 104]⟩ ⟨dg.toArray⟩ W)
  have hp1 := Lib.hid (fun k W (h1 : UnB W u f [] B) (h2 : Has W k 69 #[.string ⟨#[99, 111, 110, 116, 101, 110, 116, 45, 116, 121, 112, 101]⟩, .string ⟨#[116, 101, 120, 116, 47, 112, 108, 97, 105, 110]⟩, .string ⟨#[99, 111, 110, 116, 101, 110, 116, 45, 108, 101, 110, 103, 116, 104]⟩, .string ⟨dg.toArray⟩]) => show Calls Tryd.prog 40 #[.pointer (some ⟨u, 0, none⟩), .slice (some ⟨k, 0, none⟩) 2 2] W fun e w' => e = .returned (.tuple #[]) ∧ UnB w' u f ([] ++ [(An.ctypeL, An.plainT), (An.clenL, dg)]) B ∧ Below u W w' from put_any u k 2 f [] [(An.ctypeL, An.plainT), (An.clenL, dg)] B _ W h1 h2 (fun j x hx => by have hj : j < 4 := (List.getElem?_eq_some_iff.1 hx).1; rcases (by omega : j = 0 ∨ j = 1 ∨ j = 2 ∨ j = 3) with rfl | rfl | rfl | rfl <;> exact hx) (by simp))
  clear z3 hU3 hB3
  go_region_held3 (fun W' => W'.cell? ⟨u, 2, none⟩ = some (.string B))
    (first | with_reducible exact e3 | with_reducible exact ed3 | with_reducible exact e5 | with_reducible exact e6 | with_reducible exact e7 | with_reducible exact e8 | with_reducible exact e9)
    (first
      | (go_at_call 41; (with_reducible refine Calls.mono (t1.out _) ?_); rintro e w5 ⟨rfl, hb5⟩; have hU5 := Lib.hid (hU3'.out.below hb5); have hB5 := Lib.hid (below_on hB3'.out hb5); have e5 : w5.cell? ⟨u, 2, none⟩ = some (.string B) := (hb5.cell (p := ⟨u, 2, none⟩) hul').trans ed3; have hul5 : u < w5.heap.size := Nat.lt_of_lt_of_le hul' hb5.size; clear hb5)
      | (go_at_call 30; (with_reducible refine Calls.mono (hdg.out _ (hTW.out _ hB5.out)) ?_); rintro e w6 ⟨rfl, hb6⟩; have hU6 := Lib.hid (hU5.out.below hb6); have hB6 := Lib.hid (below_on hB5.out hb6); have e6 : w6.cell? ⟨u, 2, none⟩ = some (.string B) := (hb6.cell (p := ⟨u, 2, none⟩) hul5).trans e5; have hul6 : u < w6.heap.size := Nat.lt_of_lt_of_le hul5 hb6.size; clear hb6)
      | (go_at_call 41; (with_reducible refine Calls.mono (t3.out _) ?_); rintro e w7 ⟨rfl, hb7⟩; have hU7 := Lib.hid (hU6.out.below hb7); have hB7 := Lib.hid (below_on hB6.out hb7); have e7 : w7.cell? ⟨u, 2, none⟩ = some (.string B) := (hb7.cell (p := ⟨u, 2, none⟩) hul6).trans e6; have hul7 : u < w7.heap.size := Nat.lt_of_lt_of_le hul6 hb7.size; have hb8 := (Below.refl w7.heap.size w7).alloc (Nat.le_refl _) (.cells #[.string ⟨#[99, 111, 110, 116, 101, 110, 116, 45, 116, 121, 112, 101]⟩, .string ⟨#[116, 101, 120, 116, 47, 112, 108, 97, 105, 110]⟩, .string ⟨#[99, 111, 110, 116, 101, 110, 116, 45, 108, 101, 110, 103, 116, 104]⟩, .string ⟨dg.toArray⟩] 69); have hz8 := Lib.hid (Has.new w7 69 #[.string ⟨#[99, 111, 110, 116, 101, 110, 116, 45, 116, 121, 112, 101]⟩, .string ⟨#[116, 101, 120, 116, 47, 112, 108, 97, 105, 110]⟩, .string ⟨#[99, 111, 110, 116, 101, 110, 116, 45, 108, 101, 110, 103, 116, 104]⟩, .string ⟨dg.toArray⟩]); have hU8 := Lib.hid (hU7.out.below hb8); have hB8 := Lib.hid (below_on hB7.out hb8); have e8 := (hb8.cell (p := ⟨u, 2, none⟩) hul7).trans e7; clear hb7 hb8)
      | (go_at_call 40; (with_reducible refine Calls.mono (hp1.out _ _ hU8.out hz8.out) ?_); rintro e w9 ⟨rfl, hU9, hb9⟩; have e9 : w9.cell? ⟨u, 2, none⟩ = some (.string B) := hU9.choose_spec.1.cell 2; have hU9' := Lib.hid hU9; have hB9 := Lib.hid (hB8.out.trans (hb9.mono hu'.out)); clear hU9 hb9))
  clear e3 ed3 e5 e6 e7 e8 e9 hul hul' hul5 hul6 hul7
  have how := Lib.hid (putOwn_any s u f ([] ++ [(An.ctypeL, An.plainT), (An.clenL, dg)]) B w9 hU9'.out (by simp))
  go_upto_region 6 with (go_at_call 42; (with_reducible refine Calls.mono how.out ?_); rintro e w10 ⟨rfl, hU10, hb10⟩; have hU10' := Lib.hid hU10; have hB10 := Lib.hid (hB9.out.trans (hb10.mono hu'.out)); clear hU10 hb10)
  have hpc := Lib.hid (fun k W (h1 : UnB W u f ([] ++ [(An.ctypeL, An.plainT), (An.clenL, dg)] ++ An.own s) B) (h2 : Has W k 69 #[.string ⟨#[99, 111, 110, 110, 101, 99, 116, 105, 111, 110]⟩, .string ⟨#[99, 108, 111, 115, 101]⟩]) => show Calls Tryd.prog 40 #[.pointer (some ⟨u, 0, none⟩), .slice (some ⟨k, 0, none⟩) 1 1] W fun e w' => e = .returned (.tuple #[]) ∧ UnB w' u f ([] ++ [(An.ctypeL, An.plainT), (An.clenL, dg)] ++ An.own s ++ [(An.connL, An.closeL)]) B ∧ Below u W w' from put_any u k 1 f _ [(An.connL, An.closeL)] B _ W h1 h2 (fun j x hx => by have hj : j < 2 := (List.getElem?_eq_some_iff.1 hx).1; rcases (by omega : j = 0 ∨ j = 1) with rfl | rfl <;> exact hx) (by have := hown.out; simp; omega))
  go_wp2_with (first
    | (go_at_call 41; (with_reducible refine Calls.mono (hfd.out _ _ _) ?_); rintro e w11 ⟨rfl, hb11⟩; have hb12 := hb11.alloc hb11.size (.cells #[.string ⟨#[99, 111, 110, 110, 101, 99, 116, 105, 111, 110]⟩, .string ⟨#[99, 108, 111, 115, 101]⟩] 69); have hz12 := Lib.hid (Has.new w11 69 #[.string ⟨#[99, 111, 110, 110, 101, 99, 116, 105, 111, 110]⟩, .string ⟨#[99, 108, 111, 115, 101]⟩]); have hU12 := Lib.hid (hU10'.out.below hb12); have hB12 := Lib.hid (below_on hB10.out hb12); clear hb11 hb12)
    | (go_at_call 40; (with_reducible refine Calls.mono (hpc.out _ _ hU12.out hz12.out) ?_); rintro e w13 ⟨rfl, hU13, hb13⟩; have hU13' := Lib.hid hU13; have hB13 := Lib.hid (hB12.out.trans (hb13.mono hu'.out)); clear hU13 hb13))
  go_ret
  refine ⟨u, rfl, hu'.out, ?_, hB13.out⟩
  rw [hfl.out, ← hBe.out]
  exact hU13'.out
end Go.Proofs.YtabgpnieekcdhaaDoor
