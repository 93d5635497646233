import Derived.Test.YtlcfpnegpihicaaGreatDoorPw14
import Derived.Test.YtlcfpnegpihicaaGreatDoorPw15
import Derived.BigQuiet
import Derived.Deep.QuietTactic
import Derived.Deep.RegionHeld3
import Derived.Test.YtlcfpnegpihicaaGreatDoorPw5
namespace Go.Proofs.YtlcfpnegpihicaaGreatDoor
open Go.RowKit Go.Shelf
attribute [local go_sem] Oper.semAt_some

/-! ## finish -/
theorem trim_suffix (d : List UInt8) : Lib.trimSuffix d [10] = trimD d := by
  unfold Lib.trimSuffix trimD
  rcases List.eq_nil_or_concat d with rfl | ⟨L, b, rfl⟩
  · rfl
  · by_cases hb : b = 10
    · subst hb
      have h : Lib.hasSuffix (L ++ [10]) [10] = true := by simp [Lib.hasSuffix]
      simp [h]
    · have h : Lib.hasSuffix (L ++ [b]) [10] = false := by simp [Lib.hasSuffix, List.isSuffixOf, List.isPrefixOf]; exact fun e => hb (Eq.symm e)
      simp [h, hb]
set_option maxRecDepth 100000 in
set_option maxHeartbeats 4000000 in
theorem finishPs_any (nb p sp l m : Nat) (s : PrS) (f : FdT) (dv : Value) (w : World) (hp : Has w p 71 (prC sp dv s l m)) (hd : Bs w nb dv s.data) (hnb : nb ≤ w.heap.size) (hdl : s.data.length ≤ 1000000) (hkl : s.kind.length ≤ 1000000) (hll : s.last.length ≤ 1000000) (hm : m ≤ 65536) :
    Calls Tryz.prog 76 #[.pointer (some ⟨p, 0, none⟩), .agg (fdC f)] w (DeedR nb p sp l m dv.ownBlock (prNew s.last) (finD m s) w) := by
  obtain ⟨kd, dt, lg, lt⟩ := s
  simp only at hd hdl hkl hll
  have hpl := hp.lt
  have hp' := Lib.hid hp
  have hd' := Lib.hid hd
  have hb2 : Below w.heap.size w ((w.alloc (.cells (fdC f) 104)).alloc (.cells (sdC sdN) 40)) := ((Below.refl _ _).alloc (Nat.le_refl _) _).alloc (by simp) _
  have hp2 := hp.below hb2 hpl
  have c1 := hp2.cell 1
  have c2 := hp2.cell 2
  have c3 := hp2.cell 3
  obtain ⟨A, c, hdv, hrd⟩ := hd.shape
  obtain ⟨ob, hob⟩ : ∃ ob, dv.ownBlock = ob := ⟨_, rfl⟩
  have hob' := Lib.hid hob
  rw [hob]
  have hdl' := Lib.hid hdl
  have hrd' := Lib.hid hrd
  have hdv' := Lib.hid hdv
  unfold prC at c1 c2 c3
  simp only [hdv] at c1 c2 c3
  have hb3 := hb2.alloc (by simp; omega) (.cells #[.string ⟨kd.toArray⟩, .slice A dt.length c, .bool lg] 68)
  have hp3 := hp.below hb3 hpl
  have f1 := hp3.free 1
  have f2 := hp3.free 2
  have f3 := hp3.free 3
  have d1 := hp3.cell 1
  have d2 := hp3.cell 2
  have d3 := hp3.cell 3
  unfold prC at d1 d2 d3
  simp only [hdv] at d1 d2 d3
  have hml : (m : Int) ≤ 65536 := by omega
  clear hp hd hb2 hp2 hob hdv hrd hdl hb3 hp3
  unfold fdC sdC sdN at f1 f2 f3 c1 c2 c3 d1 d2 d3
  unfold fdC
  go_enter Tryz.func76, Tryz.ntmps76
  go_upto_region 3 with (fail)
  clear f1 f2 f3 c1 c2 c3 d1 d2 d3
  have hb3 : Below w.heap.size w (((w.alloc (.cells #[.int .i64 f.1, .string ⟨f.2.1.toArray⟩, .string ⟨f.2.2.toArray⟩] 104)).alloc (.cells #[.int .i64 0, .string ⟨#[]⟩, .string ⟨#[]⟩, .string ⟨#[]⟩, .int .u64 0] 40)).alloc (.cells #[.string ⟨kd.toArray⟩, .slice A dt.length c, .bool lg] 68)) := (((Below.refl _ _).alloc (Nat.le_refl _) _).alloc (by simp) _).alloc (by simp; omega) _
  have kS := (Has.new (w.alloc (.cells #[.int .i64 f.1, .string ⟨f.2.1.toArray⟩, .string ⟨f.2.2.toArray⟩] 104)) 40 #[.int .i64 0, .string ⟨#[]⟩, .string ⟨#[]⟩, .string ⟨#[]⟩, .int .u64 0]).alloc (.cells #[.string ⟨kd.toArray⟩, .slice A dt.length c, .bool lg] 68)
  have kU := Has.new ((w.alloc (.cells #[.int .i64 f.1, .string ⟨f.2.1.toArray⟩, .string ⟨f.2.2.toArray⟩] 104)).alloc (.cells #[.int .i64 0, .string ⟨#[]⟩, .string ⟨#[]⟩, .string ⟨#[]⟩, .int .u64 0] 40)) 68 #[.string ⟨kd.toArray⟩, .slice A dt.length c, .bool lg]
  simp only [World.size_alloc] at kS kU
  have hz3 : ((((w.alloc (.cells #[.int .i64 f.1, .string ⟨f.2.1.toArray⟩, .string ⟨f.2.2.toArray⟩] 104)).alloc (.cells #[.int .i64 0, .string ⟨#[]⟩, .string ⟨#[]⟩, .string ⟨#[]⟩, .int .u64 0] 40)).alloc (.cells #[.string ⟨kd.toArray⟩, .slice A dt.length c, .bool lg] 68))).heap.size = w.heap.size + 1 + 1 + 1 := by simp
  obtain ⟨W3, hW3⟩ : ∃ W3, (((w.alloc (.cells #[.int .i64 f.1, .string ⟨f.2.1.toArray⟩, .string ⟨f.2.2.toArray⟩] 104)).alloc (.cells #[.int .i64 0, .string ⟨#[]⟩, .string ⟨#[]⟩, .string ⟨#[]⟩, .int .u64 0] 40)).alloc (.cells #[.string ⟨kd.toArray⟩, .slice A dt.length c, .bool lg] 68)) = W3 := ⟨_, rfl⟩
  rw [hW3] at hb3 kS kU hz3 ⊢
  have hp3 := hp'.out.below hb3 hpl
  have hd3 := hd'.out.below hb3
  have hd4 := hd3.setCell (i := 1) hp3 (by decide) (.string ⟨#[]⟩)
  have hp4 := hp3.put 1 (.string ⟨#[]⟩)
  have hd5 := hd4.setCell (i := 2) hp4 (by decide) (.slice none 0 0)
  have hp5 := hp4.put 2 (.slice none 0 0)
  have hd6 := hd5.setCell (i := 3) hp5 (by decide) (.bool false)
  have hp6 := hp5.put 3 (.bool false)
  have hpne1 : w.heap.size + 1 ≠ p := by omega
  have hpne2 : w.heap.size + 1 + 1 ≠ p := by omega
  have kS6 := ((kS.other hpne1 (i := 1) (.string ⟨#[]⟩)).other hpne1 (i := 2) (.slice none 0 0)).other hpne1 (i := 3) (.bool false)
  have kU6 := ((kU.other hpne2 (i := 1) (.string ⟨#[]⟩)).other hpne2 (i := 2) (.slice none 0 0)).other hpne2 (i := 3) (.bool false)
  have hC6 := (((Chg.of_below (S := fun k => k = p ∨ ob = some k) hb3).set (.inl rfl) 1 (.string ⟨#[]⟩)).set (.inl rfl) 2 (.slice none 0 0)).set (.inl rfl) 3 (.bool false)
  have hz6 : (((W3.setCell ⟨p, 1, none⟩ (.string ⟨#[]⟩)).setCell ⟨p, 2, none⟩ (.slice none 0 0)).setCell ⟨p, 3, none⟩ (.bool false)).heap.size = w.heap.size + 1 + 1 + 1 := by simp [hz3]
  clear hb3 kS kU hp3 hd3 hd4 hp4 hd5 hp5 hd'
  obtain ⟨W, hW⟩ : ∃ W, ((W3.setCell ⟨p, 1, none⟩ (.string ⟨#[]⟩)).setCell ⟨p, 2, none⟩ (.slice none 0 0)).setCell ⟨p, 3, none⟩ (.bool false) = W := ⟨_, rfl⟩
  rw [hW] at hd6 hp6 kS6 kU6 hC6 hz6 ⊢
  have hpW : Has W p 71 (prC sp (.slice none 0 0) (prNew lt) l m) := by simpa [prC, prNew] using hp6
  clear hW hW3 hz3 hp6
  obtain ⟨A', c', he, hr⟩ := hd6.shape
  rw [hdv'.out] at he
  injection he with e1 e2 e3
  subst e1
  subst e3
  have hall : Hid (∀ W', Below W.heap.size W W' → W'.cell? ⟨p, 4, none⟩ = some (.string ⟨lt.toArray⟩) ∧ W'.cell? ⟨w.heap.size + 1 + 1, 0, none⟩ = some (.string ⟨kd.toArray⟩) ∧ W'.cell? ⟨w.heap.size + 1 + 1, 1, none⟩ = some (.slice A dt.length c) ∧ (convert 22 9 (.slice A dt.length c)).run Tryz.prog W' = .ok (.string ⟨dt.toArray⟩) W') := Lib.hid (fun W' hb => by
    refine ⟨(hpW.below hb hpW.lt).cell 4, (kU6.below hb kU6.lt).cell 0, (kU6.below hb kU6.lt).cell 1, ?_⟩
    exact (hr.kept (Kept.below hb (fun b h => h.2))).text (P := Tryz.prog) 22 9 5 c Tryz.underlying22 Tryz.underlying5 Tryz.underlying9)
  have hbd := Lib.hid (Below.refl W.heap.size W).drew
  have hbs := Lib.hid (fun x y z => ((Below.refl W.heap.size W).alloc (Nat.le_refl _) (.cells #[x, y, z] 37)).drew)
  have hts := fun W' => Tryz.strings_TrimSuffix ⟨dt.toArray⟩ ⟨#[10]⟩ W' (by show dt.toArray.size ≤ _; have := hdl'.out; simp; omega)
  simp only [show (⟨#[10]⟩ : ByteArray).data.toList = [10] from rfl, show (ByteArray.mk dt.toArray).data.toList = dt from by simp, trim_suffix] at hts
  have hts' := Lib.hid hts
  have hpW' := Lib.hid hpW
  have kS6' := Lib.hid kS6
  have kU6' := Lib.hid kU6
  have hC6' := Lib.hid hC6
  clear hts hd6 hr kS6 kU6 hC6 hpW
  go_region_held3 (fun W' => W'.cell? ⟨p, 4, none⟩ = some (.string ⟨lt.toArray⟩) ∧ W'.cell? ⟨w.heap.size + 1 + 1, 0, none⟩ = some (.string ⟨kd.toArray⟩) ∧ W'.cell? ⟨w.heap.size + 1 + 1, 1, none⟩ = some (.slice A dt.length c) ∧ (convert 22 9 (.slice A dt.length c)).run Tryz.prog W' = .ok (.string ⟨dt.toArray⟩) W')
    (first
    | with_reducible exact hall.out _ hbd.out
    | with_reducible exact hall.out _ (hbs.out _ _ _)
    | fail)
    (first
    | (go_at_call 98; (with_reducible refine Calls.mono (hts'.out _) ?_); rintro e w3 ⟨rfl, rfl⟩)
    | fail)
  all_goals (
    have hB7 : Below W.heap.size W ((W.alloc (.cells #[.string ⟨lt.toArray⟩, .string ⟨kd.toArray⟩, .string ⟨(trimD dt).toArray⟩] 37)).drew) := ((Below.refl _ _).alloc (Nat.le_refl _) _).drew
    have kE7 : Has ((W.alloc (.cells #[.string ⟨lt.toArray⟩, .string ⟨kd.toArray⟩, .string ⟨(trimD dt).toArray⟩] 37)).drew) (w.heap.size + 1 + 1 + 1) 37 #[.string ⟨lt.toArray⟩, .string ⟨kd.toArray⟩, .string ⟨(trimD dt).toArray⟩] := by rw [← hz6]; exact (Has.new W _ _).drew
    have hz7 : ((W.alloc (.cells #[.string ⟨lt.toArray⟩, .string ⟨kd.toArray⟩, .string ⟨(trimD dt).toArray⟩] 37)).drew).heap.size = w.heap.size + 1 + 1 + 1 + 1 := by show (W.alloc _).heap.size = _; simp [hz6]
    obtain ⟨W7, hW7⟩ : ∃ W7, (W.alloc (.cells #[.string ⟨lt.toArray⟩, .string ⟨kd.toArray⟩, .string ⟨(trimD dt).toArray⟩] 37)).drew = W7 := ⟨_, rfl⟩
    rw [hW7] at hB7 kE7 hz7 ⊢
    clear hW7
    have hp7 := hpW'.out.below hB7 hpW'.out.lt
    have kS7 := kS6'.out.below hB7 kS6'.out.lt
    have kU7 := kU6'.out.below hB7 kU6'.out.lt
    have hC7 : Hid (Chg (fun k => k = p ∨ ob = some k) w W7) := Lib.hid (hC6'.out.trans (Chg.of_below (hB7.mono (by omega))))
    have a6 := hp7.cell 6
    have u1 := kU7.cell 1
    have u2 := kU7.cell 2
    have v0 := kE7.cell 0
    have v1 := kE7.cell 1
    have v2 := kE7.cell 2
    have y0 := kS7.cell 0
    have y1 := kS7.cell 1
    have y2 := kS7.cell 2
    have y3 := kS7.cell 3
    have y4 := kS7.cell 4
    have z0 := kS7.free 0
    have z1 := kS7.free 1
    have z2 := kS7.free 2
    have z3 := kS7.free 3
    have z4 := kS7.free 4
    unfold prC at a6
    have hp7' := Lib.hid hp7
    have kS7' := Lib.hid kS7
    clear hp7 kS7 kU7 kE7 hB7
    have htl : (trimD dt).length ≤ dt.length := by
      unfold trimD
      split
      · rw [List.length_dropLast]; omega
      · exact Nat.le_refl _
    have hs1 : IntKind.i64.wrap ((lt.length : Int) + (kd.length : Int)) = (lt.length : Int) + (kd.length : Int) := IntWalk.i64_in _ ⟨by omega, by omega⟩
    have hs2 : IntKind.i64.wrap ((lt.length : Int) + (kd.length : Int) + ((trimD dt).length : Int)) = (lt.length : Int) + (kd.length : Int) + ((trimD dt).length : Int) := IntWalk.i64_in _ ⟨by omega, by have := hdl'.out; omega⟩
    cases lg with
    | true =>
      go_wp2_with (fail)
      go_quiet (fail)
      go_wp2
      clear a6 u1 u2 v0 v1 v2 y0 y1 y2 y3 y4 z0 z1 z2 z3 z4
      have kS8 := kS7'.out.drewN nq
      have kE := Z5_has kS8 (.int .i64 3) (.string ⟨#[]⟩) (.string ⟨#[]⟩) (.string ⟨#[]⟩) (.int .u64 0)
      have z0 := kE.cell 0
      have z1 := kE.cell 1
      have z2 := kE.cell 2
      have z3 := kE.cell 3
      have z4 := kE.cell 4
      have hfin : finD m ⟨kd, dt, true, lt⟩ = some (3, ([], [], []), 0) := by unfold finD; rw [if_pos (.inl rfl)]
      refine bodyPost_ret (v := .agg #[.int .i64 3, .string ⟨#[]⟩, .string ⟨#[]⟩, .string ⟨#[]⟩, .int .u64 0]) (by simp [results, Tryz.results76, go_sem, z0, z1, z2, z3, z4]) rfl ⟨by rw [hfin]; rfl, ⟨.slice none 0 0, Z5_other (hp7'.out.drewN nq) hpne1.symm _ _ _ _ _, Z5_bs (bs_nil _ _) kS8 (by decide) _ _ _ _ _, .inl rfl⟩, Z5_chg (hC7.out.trans (Chg.of_below (below_draws (Below.refl _ _) nq))) (by omega) _ _ _ _ _⟩
    | false =>
      by_cases hgt : (m : Int) < (lt.length : Int) + (kd.length : Int) + ((trimD dt).length : Int)
      · go_wp2_with (fail)
        go_quiet (fail)
        go_wp2
        clear a6 u1 u2 v0 v1 v2 y0 y1 y2 y3 y4 z0 z1 z2 z3 z4
        have kS8 := kS7'.out.drewN nq
        have kE := Z5_has kS8 (.int .i64 3) (.string ⟨#[]⟩) (.string ⟨#[]⟩) (.string ⟨#[]⟩) (.int .u64 0)
        have z0 := kE.cell 0
        have z1 := kE.cell 1
        have z2 := kE.cell 2
        have z3 := kE.cell 3
        have z4 := kE.cell 4
        have hfin : finD m ⟨kd, dt, false, lt⟩ = some (3, ([], [], []), 0) := by unfold finD; rw [if_pos (.inr (by unfold sumE evD; simp only; omega))]
        refine bodyPost_ret (v := .agg #[.int .i64 3, .string ⟨#[]⟩, .string ⟨#[]⟩, .string ⟨#[]⟩, .int .u64 0]) (by simp [results, Tryz.results76, go_sem, z0, z1, z2, z3, z4]) rfl ⟨by rw [hfin]; rfl, ⟨.slice none 0 0, Z5_other (hp7'.out.drewN nq) hpne1.symm _ _ _ _ _, Z5_bs (bs_nil _ _) kS8 (by decide) _ _ _ _ _, .inl rfl⟩, Z5_chg (hC7.out.trans (Chg.of_below (below_draws (Below.refl _ _) nq))) (by omega) _ _ _ _ _⟩
      · by_cases hne : (0 : Int) < (dt.length : Int)
        · go_wp2_with (fail)
          go_quiet (fail)
          go_wp2
          clear a6 u1 u2 v0 v1 v2 y0 y1 y2 y3 y4 z0 z1 z2 z3 z4
          have kS8 := kS7'.out.drewN nq
          have kE := Z5_has kS8 (.int .i64 1) (.string ⟨lt.toArray⟩) (.string ⟨kd.toArray⟩) (.string ⟨(trimD dt).toArray⟩) (.int .u64 0)
          have z0 := kE.cell 0
          have z1 := kE.cell 1
          have z2 := kE.cell 2
          have z3 := kE.cell 3
          have z4 := kE.cell 4
          have hfin : finD m ⟨kd, dt, false, lt⟩ = some (1, (lt, kd, trimD dt), 0) := by unfold finD; rw [if_neg (by unfold sumE evD; simp only; rintro (h | h); (cases h); omega), if_neg (by intro h; simp only at h; rw [h] at hne; simp at hne)]; rfl
          refine bodyPost_ret (v := .agg #[.int .i64 1, .string ⟨lt.toArray⟩, .string ⟨kd.toArray⟩, .string ⟨(trimD dt).toArray⟩, .int .u64 0]) (by simp [results, Tryz.results76, go_sem, z0, z1, z2, z3, z4]) rfl ⟨by rw [hfin]; rfl, ⟨.slice none 0 0, Z5_other (hp7'.out.drewN nq) hpne1.symm _ _ _ _ _, Z5_bs (bs_nil _ _) kS8 (by decide) _ _ _ _ _, .inl rfl⟩, Z5_chg (hC7.out.trans (Chg.of_below (below_draws (Below.refl _ _) nq))) (by omega) _ _ _ _ _⟩
        · go_wp2_with (fail)
          go_quiet (fail)
          go_wp2
          clear a6 u1 u2 v0 v1 v2 y0 y1 y2 y3 y4 z0 z1 z2 z3 z4
          have kS8 := kS7'.out.drewN nq
          have kE := Z5_has kS8 (.int .i64 0) (.string ⟨#[]⟩) (.string ⟨#[]⟩) (.string ⟨#[]⟩) (.int .u64 0)
          have z0 := kE.cell 0
          have z1 := kE.cell 1
          have z2 := kE.cell 2
          have z3 := kE.cell 3
          have z4 := kE.cell 4
          have hfin : finD m ⟨kd, dt, false, lt⟩ = none := by unfold finD; rw [if_neg (by unfold sumE evD; simp only; rintro (h | h); (cases h); omega), if_pos (List.eq_nil_of_length_eq_zero (by simp only; omega))]
          refine bodyPost_ret (v := .agg #[.int .i64 0, .string ⟨#[]⟩, .string ⟨#[]⟩, .string ⟨#[]⟩, .int .u64 0]) (by simp [results, Tryz.results76, go_sem, z0, z1, z2, z3, z4]) rfl ⟨by rw [hfin]; rfl, ⟨.slice none 0 0, Z5_other (hp7'.out.drewN nq) hpne1.symm _ _ _ _ _, Z5_bs (bs_nil _ _) kS8 (by decide) _ _ _ _ _, .inl rfl⟩, Z5_chg (hC7.out.trans (Chg.of_below (below_draws (Below.refl _ _) nq))) (by omega) _ _ _ _ _⟩)
end Go.Proofs.YtlcfpnegpihicaaGreatDoor

namespace Go.Proofs.YtlcfpnegpihicaaGreatDoor
open Go.RowKit Go.Shelf Go.Maps
attribute [local go_sem] Oper.semAt_some

/-! ## do -/
theorem deed_v {v : Value} {ps : List MemPlace} {k : Int} {N : Nat} (hv : fElem v = some (DeedsD.atKey (.int .i64 k) (.lit (.bool false)), ps)) (h : DeedsD.atKey (.int .i64 k) (.lit (.bool false)) = .lit (.int .i64 (N : Int))) : v = .func (.func N) #[] #[] := by
  rw [h] at hv
  exact fElem_inv hv
/-- What the caller of a deed passes on. -/
theorem DeedR.up {nb p sp l m : Nat} {od : Option Nat} {s' : PrS} {x : Option Sd} {w w1 : World} {r : Ending} {w' : World} (h : DeedR nb p sp l m od s' x w1 r w') (hb : Below w.heap.size w w1) : DeedR nb p sp l m od s' x w r w' := by
  obtain ⟨h1, ⟨dv, h2, h3, h4⟩, h5⟩ := h
  refine ⟨h1, ⟨dv, h2, h3, ?_⟩, (Chg.of_below hb).trans h5⟩
  rcases h4 with h | h | ⟨k, h, hk⟩
  · exact .inl h
  · exact .inr (.inl h)
  · exact .inr (.inr ⟨k, h, Nat.le_trans hb.size hk⟩)
set_option maxRecDepth 100000 in
theorem do_lengthen (nb p sp l m : Nat) (s : PrS) (f : FdT) (dv : Value) (w : World) (hp : Has w p 71 (prC sp dv s l m)) (hd : Bs w nb dv s.data) (hnb : nb ≤ w.heap.size) (hf : f.1 = 0) (s' : PrS) (x : Option Sd)
    (hdeed : ∀ W, Below w.heap.size w W → Calls Tryz.prog 75 #[.pointer (some ⟨p, 0, none⟩), .agg (fdC f)] W (DeedR nb p sp l m dv.ownBlock s' x W)) :
    Calls Tryz.prog 41 #[.pointer (some ⟨p, 0, none⟩), .agg (fdC f)] w (DeedR nb p sp l m dv.ownBlock s' x w) := by
  have hb2 : Below w.heap.size w ((w.alloc (.cells (fdC f) 104)).alloc (.cells (sdC sdN) 40)) := ((Below.refl _ _).alloc (Nat.le_refl _) _).alloc (by simp) _
  have kF := (Has.new w 104 (fdC f)).alloc (.cells (sdC sdN) 40)
  have kS := Has.new (w.alloc (.cells (fdC f) 104)) 40 (sdC sdN)
  rw [World.size_alloc] at kS
  have hdv := Lib.hid (deeds_any (((w.alloc (.cells (fdC f) 104)).alloc (.cells (sdC sdN) 40)).drew))
  have hb2' := Lib.hid hb2
  have kF' := Lib.hid kF
  have kS' := Lib.hid kS
  have k0 := kF.cell 0
  have hdeed' := Lib.hid hdeed
  have hpl := hp.lt
  have hd' := Lib.hid hd
  clear hp hd hb2 kF kS hdeed
  obtain ⟨ki, nm, vl⟩ := f
  simp only at hf
  subst hf
  unfold fdC sdC sdN at k0
  unfold fdC at hdeed' ⊢
  go_enter Tryz.func41, Tryz.ntmps41
  go_wp2_with (fail)
  have kF2 := kF'.out.drew
  have hat : DeedsD.atKey (.int .i64 0) (.lit (.bool false)) = .lit (.int .i64 ((75 : Nat) : Int)) := rfl
  have hhas : Maps.has DeedsD (.int .i64 0) = true := rfl
  have hky : keyOf Tryz.prog 102 (.int .i64 0) = some (.int .i64 0) := keyOf_int_mk Tryz.underlying102 (by decide)
  have hat' := Lib.hid hat
  have hhas' := Lib.hid hhas
  have hky' := Lib.hid hky
  have kF2' := Lib.hid kF2
  clear hat hhas hky kF2
  unfold fdC sdC sdN at hdv kF2' hb2'
  go_region_held3 (fun W' => W'.cell? ⟨w.heap.size, 0, none⟩ = some (.int .i64 0))
    (first
    | go_keep
    | fail)
    (first
    | (go_at_call 60; (with_reducible refine Calls.mono hdv.out ?_); rintro e w3 ⟨b, rfl, hown, hb3⟩
       obtain ⟨v, ps, hrun, hv⟩ := hown.look_ok keysF Tryz.underlying135 (zeroF w3) (zd := .lit (.bool false)) (zp := []) rfl hky'.out
       obtain rfl := deed_v hv hat'.out
       rw [hhas'.out] at hrun
       have g3 : w3.cell? ⟨w.heap.size, 0, none⟩ = some (.int .i64 0) := (kF2'.out.below hb3 kF2'.out.lt).cell 0
       have hb3' := Lib.hid hb3
       clear hown hb3 hv)
    | fail)
  clear k0
  unfold sdC sdN at kS'
  unfold fdC at kF'
  have hbw : Below w.heap.size w w3 := hb2'.out.drew.trans (hb3'.out.mono hb2'.out.size)
  have kF3 := (kF'.out.drew).below hb3'.out kF'.out.lt
  have kS3 := (kS'.out.drew).below hb3'.out kS'.out.lt
  have h0 := kF3.cell 0
  have h1 := kF3.cell 1
  have h2 := kF3.cell 2
  have hbw' := Lib.hid hbw
  have kS3' := Lib.hid kS3
  have hdq := Lib.hid (hdeed'.out w3 hbw)
  clear g3 hbw kF3 kS3 hdeed'
  go_wp2_with ((go_at_call 75; (with_reducible refine Calls.mono hdq.out ?_); rintro e w4 hD4; have hD4' := Lib.hid (hD4.up hbw'.out); obtain ⟨rfl, _, hC4⟩ := hD4; have kS4 : Has w4 (w.heap.size + 1) _ _ := (hC4.block (w.heap.size + 1) kS3'.out.lt (by rintro (h | h); (have := hpl; omega); (obtain ⟨_, cs, hh⟩ := hd'.out.own _ h; have := hh.lt; omega))).trans kS3'.out; have kS4' := Lib.hid kS4; have y0 := kS4.cell 0; have y1 := kS4.cell 1; have y2 := kS4.cell 2; have y3 := kS4.cell 3; have y4 := kS4.cell 4; have z0 := kS4.free 0; have z1 := kS4.free 1; have z2 := kS4.free 2; have z3 := kS4.free 3; have z4 := kS4.free 4; clear kS4 hC4; unfold sdC))
  clear y0 y1 y2 y3 y4 z0 z1 z2 z3 z4 h0 h1 h2
  have kE := Z5_has kS4'.out (.int .i64 (x.getD sdN).1) (.string ⟨(x.getD sdN).2.1.1.toArray⟩) (.string ⟨(x.getD sdN).2.1.2.1.toArray⟩) (.string ⟨(x.getD sdN).2.1.2.2.toArray⟩) (.int .u64 (x.getD sdN).2.2)
  have z0 := kE.cell 0
  have z1 := kE.cell 1
  have z2 := kE.cell 2
  have z3 := kE.cell 3
  have z4 := kE.cell 4
  obtain ⟨_, ⟨dv4, hp4, hd4, ho4⟩, hC4⟩ := hD4'.out
  refine bodyPost_ret (v := .agg (sdC (x.getD sdN))) (by unfold sdC; simp [results, Tryz.results41, go_sem, z0, z1, z2, z3, z4]) rfl ⟨rfl, ⟨dv4, Z5_other hp4 (by omega) _ _ _ _ _, Z5_bs hd4 kS4'.out (by decide) _ _ _ _ _, ho4⟩, Z5_chg hC4 (by omega) _ _ _ _ _⟩
set_option maxRecDepth 100000 in
theorem do_finish (nb p sp l m : Nat) (s : PrS) (f : FdT) (dv : Value) (w : World) (hp : Has w p 71 (prC sp dv s l m)) (hd : Bs w nb dv s.data) (hnb : nb ≤ w.heap.size) (hf : f.1 = 1) (s' : PrS) (x : Option Sd)
    (hdeed : ∀ W, Below w.heap.size w W → Calls Tryz.prog 76 #[.pointer (some ⟨p, 0, none⟩), .agg (fdC f)] W (DeedR nb p sp l m dv.ownBlock s' x W)) :
    Calls Tryz.prog 41 #[.pointer (some ⟨p, 0, none⟩), .agg (fdC f)] w (DeedR nb p sp l m dv.ownBlock s' x w) := by
  have hb2 : Below w.heap.size w ((w.alloc (.cells (fdC f) 104)).alloc (.cells (sdC sdN) 40)) := ((Below.refl _ _).alloc (Nat.le_refl _) _).alloc (by simp) _
  have kF := (Has.new w 104 (fdC f)).alloc (.cells (sdC sdN) 40)
  have kS := Has.new (w.alloc (.cells (fdC f) 104)) 40 (sdC sdN)
  rw [World.size_alloc] at kS
  have hdv := Lib.hid (deeds_any (((w.alloc (.cells (fdC f) 104)).alloc (.cells (sdC sdN) 40)).drew))
  have hb2' := Lib.hid hb2
  have kF' := Lib.hid kF
  have kS' := Lib.hid kS
  have k0 := kF.cell 0
  have hdeed' := Lib.hid hdeed
  have hpl := hp.lt
  have hd' := Lib.hid hd
  clear hp hd hb2 kF kS hdeed
  obtain ⟨ki, nm, vl⟩ := f
  simp only at hf
  subst hf
  unfold fdC sdC sdN at k0
  unfold fdC at hdeed' ⊢
  go_enter Tryz.func41, Tryz.ntmps41
  go_wp2_with (fail)
  have kF2 := kF'.out.drew
  have hat : DeedsD.atKey (.int .i64 1) (.lit (.bool false)) = .lit (.int .i64 ((76 : Nat) : Int)) := rfl
  have hhas : Maps.has DeedsD (.int .i64 1) = true := rfl
  have hky : keyOf Tryz.prog 102 (.int .i64 1) = some (.int .i64 1) := keyOf_int_mk Tryz.underlying102 (by decide)
  have hat' := Lib.hid hat
  have hhas' := Lib.hid hhas
  have hky' := Lib.hid hky
  have kF2' := Lib.hid kF2
  clear hat hhas hky kF2
  unfold fdC sdC sdN at hdv kF2' hb2'
  go_region_held3 (fun W' => W'.cell? ⟨w.heap.size, 0, none⟩ = some (.int .i64 1))
    (first
    | go_keep
    | fail)
    (first
    | (go_at_call 60; (with_reducible refine Calls.mono hdv.out ?_); rintro e w3 ⟨b, rfl, hown, hb3⟩
       obtain ⟨v, ps, hrun, hv⟩ := hown.look_ok keysF Tryz.underlying135 (zeroF w3) (zd := .lit (.bool false)) (zp := []) rfl hky'.out
       obtain rfl := deed_v hv hat'.out
       rw [hhas'.out] at hrun
       have g3 : w3.cell? ⟨w.heap.size, 0, none⟩ = some (.int .i64 1) := (kF2'.out.below hb3 kF2'.out.lt).cell 0
       have hb3' := Lib.hid hb3
       clear hown hb3 hv)
    | fail)
  clear k0
  unfold sdC sdN at kS'
  unfold fdC at kF'
  have hbw : Below w.heap.size w w3 := hb2'.out.drew.trans (hb3'.out.mono hb2'.out.size)
  have kF3 := (kF'.out.drew).below hb3'.out kF'.out.lt
  have kS3 := (kS'.out.drew).below hb3'.out kS'.out.lt
  have h0 := kF3.cell 0
  have h1 := kF3.cell 1
  have h2 := kF3.cell 2
  have hbw' := Lib.hid hbw
  have kS3' := Lib.hid kS3
  have hdq := Lib.hid (hdeed'.out w3 hbw)
  clear g3 hbw kF3 kS3 hdeed'
  go_wp2_with ((go_at_call 76; (with_reducible refine Calls.mono hdq.out ?_); rintro e w4 hD4; have hD4' := Lib.hid (hD4.up hbw'.out); obtain ⟨rfl, _, hC4⟩ := hD4; have kS4 : Has w4 (w.heap.size + 1) _ _ := (hC4.block (w.heap.size + 1) kS3'.out.lt (by rintro (h | h); (have := hpl; omega); (obtain ⟨_, cs, hh⟩ := hd'.out.own _ h; have := hh.lt; omega))).trans kS3'.out; have kS4' := Lib.hid kS4; have y0 := kS4.cell 0; have y1 := kS4.cell 1; have y2 := kS4.cell 2; have y3 := kS4.cell 3; have y4 := kS4.cell 4; have z0 := kS4.free 0; have z1 := kS4.free 1; have z2 := kS4.free 2; have z3 := kS4.free 3; have z4 := kS4.free 4; clear kS4 hC4; unfold sdC))
  clear y0 y1 y2 y3 y4 z0 z1 z2 z3 z4 h0 h1 h2
  have kE := Z5_has kS4'.out (.int .i64 (x.getD sdN).1) (.string ⟨(x.getD sdN).2.1.1.toArray⟩) (.string ⟨(x.getD sdN).2.1.2.1.toArray⟩) (.string ⟨(x.getD sdN).2.1.2.2.toArray⟩) (.int .u64 (x.getD sdN).2.2)
  have z0 := kE.cell 0
  have z1 := kE.cell 1
  have z2 := kE.cell 2
  have z3 := kE.cell 3
  have z4 := kE.cell 4
  obtain ⟨_, ⟨dv4, hp4, hd4, ho4⟩, hC4⟩ := hD4'.out
  refine bodyPost_ret (v := .agg (sdC (x.getD sdN))) (by unfold sdC; simp [results, Tryz.results41, go_sem, z0, z1, z2, z3, z4]) rfl ⟨rfl, ⟨dv4, Z5_other hp4 (by omega) _ _ _ _ _, Z5_bs hd4 kS4'.out (by decide) _ _ _ _ _, ho4⟩, Z5_chg hC4 (by omega) _ _ _ _ _⟩
set_option maxRecDepth 100000 in
theorem do_put (nb p sp l m : Nat) (s : PrS) (f : FdT) (dv : Value) (w : World) (hp : Has w p 71 (prC sp dv s l m)) (hd : Bs w nb dv s.data) (hnb : nb ≤ w.heap.size) (hf : f.1 = 3) (s' : PrS) (x : Option Sd)
    (hdeed : ∀ W, Below w.heap.size w W → Calls Tryz.prog 77 #[.pointer (some ⟨p, 0, none⟩), .agg (fdC f)] W (DeedR nb p sp l m dv.ownBlock s' x W)) :
    Calls Tryz.prog 41 #[.pointer (some ⟨p, 0, none⟩), .agg (fdC f)] w (DeedR nb p sp l m dv.ownBlock s' x w) := by
  have hb2 : Below w.heap.size w ((w.alloc (.cells (fdC f) 104)).alloc (.cells (sdC sdN) 40)) := ((Below.refl _ _).alloc (Nat.le_refl _) _).alloc (by simp) _
  have kF := (Has.new w 104 (fdC f)).alloc (.cells (sdC sdN) 40)
  have kS := Has.new (w.alloc (.cells (fdC f) 104)) 40 (sdC sdN)
  rw [World.size_alloc] at kS
  have hdv := Lib.hid (deeds_any (((w.alloc (.cells (fdC f) 104)).alloc (.cells (sdC sdN) 40)).drew))
  have hb2' := Lib.hid hb2
  have kF' := Lib.hid kF
  have kS' := Lib.hid kS
  have k0 := kF.cell 0
  have hdeed' := Lib.hid hdeed
  have hpl := hp.lt
  have hd' := Lib.hid hd
  clear hp hd hb2 kF kS hdeed
  obtain ⟨ki, nm, vl⟩ := f
  simp only at hf
  subst hf
  unfold fdC sdC sdN at k0
  unfold fdC at hdeed' ⊢
  go_enter Tryz.func41, Tryz.ntmps41
  go_wp2_with (fail)
  have kF2 := kF'.out.drew
  have hat : DeedsD.atKey (.int .i64 3) (.lit (.bool false)) = .lit (.int .i64 ((77 : Nat) : Int)) := rfl
  have hhas : Maps.has DeedsD (.int .i64 3) = true := rfl
  have hky : keyOf Tryz.prog 102 (.int .i64 3) = some (.int .i64 3) := keyOf_int_mk Tryz.underlying102 (by decide)
  have hat' := Lib.hid hat
  have hhas' := Lib.hid hhas
  have hky' := Lib.hid hky
  have kF2' := Lib.hid kF2
  clear hat hhas hky kF2
  unfold fdC sdC sdN at hdv kF2' hb2'
  go_region_held3 (fun W' => W'.cell? ⟨w.heap.size, 0, none⟩ = some (.int .i64 3))
    (first
    | go_keep
    | fail)
    (first
    | (go_at_call 60; (with_reducible refine Calls.mono hdv.out ?_); rintro e w3 ⟨b, rfl, hown, hb3⟩
       obtain ⟨v, ps, hrun, hv⟩ := hown.look_ok keysF Tryz.underlying135 (zeroF w3) (zd := .lit (.bool false)) (zp := []) rfl hky'.out
       obtain rfl := deed_v hv hat'.out
       rw [hhas'.out] at hrun
       have g3 : w3.cell? ⟨w.heap.size, 0, none⟩ = some (.int .i64 3) := (kF2'.out.below hb3 kF2'.out.lt).cell 0
       have hb3' := Lib.hid hb3
       clear hown hb3 hv)
    | fail)
  clear k0
  unfold sdC sdN at kS'
  unfold fdC at kF'
  have hbw : Below w.heap.size w w3 := hb2'.out.drew.trans (hb3'.out.mono hb2'.out.size)
  have kF3 := (kF'.out.drew).below hb3'.out kF'.out.lt
  have kS3 := (kS'.out.drew).below hb3'.out kS'.out.lt
  have h0 := kF3.cell 0
  have h1 := kF3.cell 1
  have h2 := kF3.cell 2
  have hbw' := Lib.hid hbw
  have kS3' := Lib.hid kS3
  have hdq := Lib.hid (hdeed'.out w3 hbw)
  clear g3 hbw kF3 kS3 hdeed'
  go_wp2_with ((go_at_call 77; (with_reducible refine Calls.mono hdq.out ?_); rintro e w4 hD4; have hD4' := Lib.hid (hD4.up hbw'.out); obtain ⟨rfl, _, hC4⟩ := hD4; have kS4 : Has w4 (w.heap.size + 1) _ _ := (hC4.block (w.heap.size + 1) kS3'.out.lt (by rintro (h | h); (have := hpl; omega); (obtain ⟨_, cs, hh⟩ := hd'.out.own _ h; have := hh.lt; omega))).trans kS3'.out; have kS4' := Lib.hid kS4; have y0 := kS4.cell 0; have y1 := kS4.cell 1; have y2 := kS4.cell 2; have y3 := kS4.cell 3; have y4 := kS4.cell 4; have z0 := kS4.free 0; have z1 := kS4.free 1; have z2 := kS4.free 2; have z3 := kS4.free 3; have z4 := kS4.free 4; clear kS4 hC4; unfold sdC))
  clear y0 y1 y2 y3 y4 z0 z1 z2 z3 z4 h0 h1 h2
  have kE := Z5_has kS4'.out (.int .i64 (x.getD sdN).1) (.string ⟨(x.getD sdN).2.1.1.toArray⟩) (.string ⟨(x.getD sdN).2.1.2.1.toArray⟩) (.string ⟨(x.getD sdN).2.1.2.2.toArray⟩) (.int .u64 (x.getD sdN).2.2)
  have z0 := kE.cell 0
  have z1 := kE.cell 1
  have z2 := kE.cell 2
  have z3 := kE.cell 3
  have z4 := kE.cell 4
  obtain ⟨_, ⟨dv4, hp4, hd4, ho4⟩, hC4⟩ := hD4'.out
  refine bodyPost_ret (v := .agg (sdC (x.getD sdN))) (by unfold sdC; simp [results, Tryz.results41, go_sem, z0, z1, z2, z3, z4]) rfl ⟨rfl, ⟨dv4, Z5_other hp4 (by omega) _ _ _ _ _, Z5_bs hd4 kS4'.out (by decide) _ _ _ _ _, ho4⟩, Z5_chg hC4 (by omega) _ _ _ _ _⟩
set_option maxRecDepth 100000 in
theorem do_name (nb p sp l m : Nat) (s : PrS) (f : FdT) (dv : Value) (w : World) (hp : Has w p 71 (prC sp dv s l m)) (hd : Bs w nb dv s.data) (hnb : nb ≤ w.heap.size) (hf : f.1 = 4) (s' : PrS) (x : Option Sd)
    (hdeed : ∀ W, Below w.heap.size w W → Calls Tryz.prog 78 #[.pointer (some ⟨p, 0, none⟩), .agg (fdC f)] W (DeedR nb p sp l m dv.ownBlock s' x W)) :
    Calls Tryz.prog 41 #[.pointer (some ⟨p, 0, none⟩), .agg (fdC f)] w (DeedR nb p sp l m dv.ownBlock s' x w) := by
  have hb2 : Below w.heap.size w ((w.alloc (.cells (fdC f) 104)).alloc (.cells (sdC sdN) 40)) := ((Below.refl _ _).alloc (Nat.le_refl _) _).alloc (by simp) _
  have kF := (Has.new w 104 (fdC f)).alloc (.cells (sdC sdN) 40)
  have kS := Has.new (w.alloc (.cells (fdC f) 104)) 40 (sdC sdN)
  rw [World.size_alloc] at kS
  have hdv := Lib.hid (deeds_any (((w.alloc (.cells (fdC f) 104)).alloc (.cells (sdC sdN) 40)).drew))
  have hb2' := Lib.hid hb2
  have kF' := Lib.hid kF
  have kS' := Lib.hid kS
  have k0 := kF.cell 0
  have hdeed' := Lib.hid hdeed
  have hpl := hp.lt
  have hd' := Lib.hid hd
  clear hp hd hb2 kF kS hdeed
  obtain ⟨ki, nm, vl⟩ := f
  simp only at hf
  subst hf
  unfold fdC sdC sdN at k0
  unfold fdC at hdeed' ⊢
  go_enter Tryz.func41, Tryz.ntmps41
  go_wp2_with (fail)
  have kF2 := kF'.out.drew
  have hat : DeedsD.atKey (.int .i64 4) (.lit (.bool false)) = .lit (.int .i64 ((78 : Nat) : Int)) := rfl
  have hhas : Maps.has DeedsD (.int .i64 4) = true := rfl
  have hky : keyOf Tryz.prog 102 (.int .i64 4) = some (.int .i64 4) := keyOf_int_mk Tryz.underlying102 (by decide)
  have hat' := Lib.hid hat
  have hhas' := Lib.hid hhas
  have hky' := Lib.hid hky
  have kF2' := Lib.hid kF2
  clear hat hhas hky kF2
  unfold fdC sdC sdN at hdv kF2' hb2'
  go_region_held3 (fun W' => W'.cell? ⟨w.heap.size, 0, none⟩ = some (.int .i64 4))
    (first
    | go_keep
    | fail)
    (first
    | (go_at_call 60; (with_reducible refine Calls.mono hdv.out ?_); rintro e w3 ⟨b, rfl, hown, hb3⟩
       obtain ⟨v, ps, hrun, hv⟩ := hown.look_ok keysF Tryz.underlying135 (zeroF w3) (zd := .lit (.bool false)) (zp := []) rfl hky'.out
       obtain rfl := deed_v hv hat'.out
       rw [hhas'.out] at hrun
       have g3 : w3.cell? ⟨w.heap.size, 0, none⟩ = some (.int .i64 4) := (kF2'.out.below hb3 kF2'.out.lt).cell 0
       have hb3' := Lib.hid hb3
       clear hown hb3 hv)
    | fail)
  clear k0
  unfold sdC sdN at kS'
  unfold fdC at kF'
  have hbw : Below w.heap.size w w3 := hb2'.out.drew.trans (hb3'.out.mono hb2'.out.size)
  have kF3 := (kF'.out.drew).below hb3'.out kF'.out.lt
  have kS3 := (kS'.out.drew).below hb3'.out kS'.out.lt
  have h0 := kF3.cell 0
  have h1 := kF3.cell 1
  have h2 := kF3.cell 2
  have hbw' := Lib.hid hbw
  have kS3' := Lib.hid kS3
  have hdq := Lib.hid (hdeed'.out w3 hbw)
  clear g3 hbw kF3 kS3 hdeed'
  go_wp2_with ((go_at_call 78; (with_reducible refine Calls.mono hdq.out ?_); rintro e w4 hD4; have hD4' := Lib.hid (hD4.up hbw'.out); obtain ⟨rfl, _, hC4⟩ := hD4; have kS4 : Has w4 (w.heap.size + 1) _ _ := (hC4.block (w.heap.size + 1) kS3'.out.lt (by rintro (h | h); (have := hpl; omega); (obtain ⟨_, cs, hh⟩ := hd'.out.own _ h; have := hh.lt; omega))).trans kS3'.out; have kS4' := Lib.hid kS4; have y0 := kS4.cell 0; have y1 := kS4.cell 1; have y2 := kS4.cell 2; have y3 := kS4.cell 3; have y4 := kS4.cell 4; have z0 := kS4.free 0; have z1 := kS4.free 1; have z2 := kS4.free 2; have z3 := kS4.free 3; have z4 := kS4.free 4; clear kS4 hC4; unfold sdC))
  clear y0 y1 y2 y3 y4 z0 z1 z2 z3 z4 h0 h1 h2
  have kE := Z5_has kS4'.out (.int .i64 (x.getD sdN).1) (.string ⟨(x.getD sdN).2.1.1.toArray⟩) (.string ⟨(x.getD sdN).2.1.2.1.toArray⟩) (.string ⟨(x.getD sdN).2.1.2.2.toArray⟩) (.int .u64 (x.getD sdN).2.2)
  have z0 := kE.cell 0
  have z1 := kE.cell 1
  have z2 := kE.cell 2
  have z3 := kE.cell 3
  have z4 := kE.cell 4
  obtain ⟨_, ⟨dv4, hp4, hd4, ho4⟩, hC4⟩ := hD4'.out
  refine bodyPost_ret (v := .agg (sdC (x.getD sdN))) (by unfold sdC; simp [results, Tryz.results41, go_sem, z0, z1, z2, z3, z4]) rfl ⟨rfl, ⟨dv4, Z5_other hp4 (by omega) _ _ _ _ _, Z5_bs hd4 kS4'.out (by decide) _ _ _ _ _, ho4⟩, Z5_chg hC4 (by omega) _ _ _ _ _⟩
set_option maxRecDepth 100000 in
theorem do_identify (nb p sp l m : Nat) (s : PrS) (f : FdT) (dv : Value) (w : World) (hp : Has w p 71 (prC sp dv s l m)) (hd : Bs w nb dv s.data) (hnb : nb ≤ w.heap.size) (hf : f.1 = 5) (s' : PrS) (x : Option Sd)
    (hdeed : ∀ W, Below w.heap.size w W → Calls Tryz.prog 79 #[.pointer (some ⟨p, 0, none⟩), .agg (fdC f)] W (DeedR nb p sp l m dv.ownBlock s' x W)) :
    Calls Tryz.prog 41 #[.pointer (some ⟨p, 0, none⟩), .agg (fdC f)] w (DeedR nb p sp l m dv.ownBlock s' x w) := by
  have hb2 : Below w.heap.size w ((w.alloc (.cells (fdC f) 104)).alloc (.cells (sdC sdN) 40)) := ((Below.refl _ _).alloc (Nat.le_refl _) _).alloc (by simp) _
  have kF := (Has.new w 104 (fdC f)).alloc (.cells (sdC sdN) 40)
  have kS := Has.new (w.alloc (.cells (fdC f) 104)) 40 (sdC sdN)
  rw [World.size_alloc] at kS
  have hdv := Lib.hid (deeds_any (((w.alloc (.cells (fdC f) 104)).alloc (.cells (sdC sdN) 40)).drew))
  have hb2' := Lib.hid hb2
  have kF' := Lib.hid kF
  have kS' := Lib.hid kS
  have k0 := kF.cell 0
  have hdeed' := Lib.hid hdeed
  have hpl := hp.lt
  have hd' := Lib.hid hd
  clear hp hd hb2 kF kS hdeed
  obtain ⟨ki, nm, vl⟩ := f
  simp only at hf
  subst hf
  unfold fdC sdC sdN at k0
  unfold fdC at hdeed' ⊢
  go_enter Tryz.func41, Tryz.ntmps41
  go_wp2_with (fail)
  have kF2 := kF'.out.drew
  have hat : DeedsD.atKey (.int .i64 5) (.lit (.bool false)) = .lit (.int .i64 ((79 : Nat) : Int)) := rfl
  have hhas : Maps.has DeedsD (.int .i64 5) = true := rfl
  have hky : keyOf Tryz.prog 102 (.int .i64 5) = some (.int .i64 5) := keyOf_int_mk Tryz.underlying102 (by decide)
  have hat' := Lib.hid hat
  have hhas' := Lib.hid hhas
  have hky' := Lib.hid hky
  have kF2' := Lib.hid kF2
  clear hat hhas hky kF2
  unfold fdC sdC sdN at hdv kF2' hb2'
  go_region_held3 (fun W' => W'.cell? ⟨w.heap.size, 0, none⟩ = some (.int .i64 5))
    (first
    | go_keep
    | fail)
    (first
    | (go_at_call 60; (with_reducible refine Calls.mono hdv.out ?_); rintro e w3 ⟨b, rfl, hown, hb3⟩
       obtain ⟨v, ps, hrun, hv⟩ := hown.look_ok keysF Tryz.underlying135 (zeroF w3) (zd := .lit (.bool false)) (zp := []) rfl hky'.out
       obtain rfl := deed_v hv hat'.out
       rw [hhas'.out] at hrun
       have g3 : w3.cell? ⟨w.heap.size, 0, none⟩ = some (.int .i64 5) := (kF2'.out.below hb3 kF2'.out.lt).cell 0
       have hb3' := Lib.hid hb3
       clear hown hb3 hv)
    | fail)
  clear k0
  unfold sdC sdN at kS'
  unfold fdC at kF'
  have hbw : Below w.heap.size w w3 := hb2'.out.drew.trans (hb3'.out.mono hb2'.out.size)
  have kF3 := (kF'.out.drew).below hb3'.out kF'.out.lt
  have kS3 := (kS'.out.drew).below hb3'.out kS'.out.lt
  have h0 := kF3.cell 0
  have h1 := kF3.cell 1
  have h2 := kF3.cell 2
  have hbw' := Lib.hid hbw
  have kS3' := Lib.hid kS3
  have hdq := Lib.hid (hdeed'.out w3 hbw)
  clear g3 hbw kF3 kS3 hdeed'
  go_wp2_with ((go_at_call 79; (with_reducible refine Calls.mono hdq.out ?_); rintro e w4 hD4; have hD4' := Lib.hid (hD4.up hbw'.out); obtain ⟨rfl, _, hC4⟩ := hD4; have kS4 : Has w4 (w.heap.size + 1) _ _ := (hC4.block (w.heap.size + 1) kS3'.out.lt (by rintro (h | h); (have := hpl; omega); (obtain ⟨_, cs, hh⟩ := hd'.out.own _ h; have := hh.lt; omega))).trans kS3'.out; have kS4' := Lib.hid kS4; have y0 := kS4.cell 0; have y1 := kS4.cell 1; have y2 := kS4.cell 2; have y3 := kS4.cell 3; have y4 := kS4.cell 4; have z0 := kS4.free 0; have z1 := kS4.free 1; have z2 := kS4.free 2; have z3 := kS4.free 3; have z4 := kS4.free 4; clear kS4 hC4; unfold sdC))
  clear y0 y1 y2 y3 y4 z0 z1 z2 z3 z4 h0 h1 h2
  have kE := Z5_has kS4'.out (.int .i64 (x.getD sdN).1) (.string ⟨(x.getD sdN).2.1.1.toArray⟩) (.string ⟨(x.getD sdN).2.1.2.1.toArray⟩) (.string ⟨(x.getD sdN).2.1.2.2.toArray⟩) (.int .u64 (x.getD sdN).2.2)
  have z0 := kE.cell 0
  have z1 := kE.cell 1
  have z2 := kE.cell 2
  have z3 := kE.cell 3
  have z4 := kE.cell 4
  obtain ⟨_, ⟨dv4, hp4, hd4, ho4⟩, hC4⟩ := hD4'.out
  refine bodyPost_ret (v := .agg (sdC (x.getD sdN))) (by unfold sdC; simp [results, Tryz.results41, go_sem, z0, z1, z2, z3, z4]) rfl ⟨rfl, ⟨dv4, Z5_other hp4 (by omega) _ _ _ _ _, Z5_bs hd4 kS4'.out (by decide) _ _ _ _ _, ho4⟩, Z5_chg hC4 (by omega) _ _ _ _ _⟩
set_option maxRecDepth 100000 in
theorem do_retry (nb p sp l m : Nat) (s : PrS) (f : FdT) (dv : Value) (w : World) (hp : Has w p 71 (prC sp dv s l m)) (hd : Bs w nb dv s.data) (hnb : nb ≤ w.heap.size) (hf : f.1 = 6) (s' : PrS) (x : Option Sd)
    (hdeed : ∀ W, Below w.heap.size w W → Calls Tryz.prog 80 #[.pointer (some ⟨p, 0, none⟩), .agg (fdC f)] W (DeedR nb p sp l m dv.ownBlock s' x W)) :
    Calls Tryz.prog 41 #[.pointer (some ⟨p, 0, none⟩), .agg (fdC f)] w (DeedR nb p sp l m dv.ownBlock s' x w) := by
  have hb2 : Below w.heap.size w ((w.alloc (.cells (fdC f) 104)).alloc (.cells (sdC sdN) 40)) := ((Below.refl _ _).alloc (Nat.le_refl _) _).alloc (by simp) _
  have kF := (Has.new w 104 (fdC f)).alloc (.cells (sdC sdN) 40)
  have kS := Has.new (w.alloc (.cells (fdC f) 104)) 40 (sdC sdN)
  rw [World.size_alloc] at kS
  have hdv := Lib.hid (deeds_any (((w.alloc (.cells (fdC f) 104)).alloc (.cells (sdC sdN) 40)).drew))
  have hb2' := Lib.hid hb2
  have kF' := Lib.hid kF
  have kS' := Lib.hid kS
  have k0 := kF.cell 0
  have hdeed' := Lib.hid hdeed
  have hpl := hp.lt
  have hd' := Lib.hid hd
  clear hp hd hb2 kF kS hdeed
  obtain ⟨ki, nm, vl⟩ := f
  simp only at hf
  subst hf
  unfold fdC sdC sdN at k0
  unfold fdC at hdeed' ⊢
  go_enter Tryz.func41, Tryz.ntmps41
  go_wp2_with (fail)
  have kF2 := kF'.out.drew
  have hat : DeedsD.atKey (.int .i64 6) (.lit (.bool false)) = .lit (.int .i64 ((80 : Nat) : Int)) := rfl
  have hhas : Maps.has DeedsD (.int .i64 6) = true := rfl
  have hky : keyOf Tryz.prog 102 (.int .i64 6) = some (.int .i64 6) := keyOf_int_mk Tryz.underlying102 (by decide)
  have hat' := Lib.hid hat
  have hhas' := Lib.hid hhas
  have hky' := Lib.hid hky
  have kF2' := Lib.hid kF2
  clear hat hhas hky kF2
  unfold fdC sdC sdN at hdv kF2' hb2'
  go_region_held3 (fun W' => W'.cell? ⟨w.heap.size, 0, none⟩ = some (.int .i64 6))
    (first
    | go_keep
    | fail)
    (first
    | (go_at_call 60; (with_reducible refine Calls.mono hdv.out ?_); rintro e w3 ⟨b, rfl, hown, hb3⟩
       obtain ⟨v, ps, hrun, hv⟩ := hown.look_ok keysF Tryz.underlying135 (zeroF w3) (zd := .lit (.bool false)) (zp := []) rfl hky'.out
       obtain rfl := deed_v hv hat'.out
       rw [hhas'.out] at hrun
       have g3 : w3.cell? ⟨w.heap.size, 0, none⟩ = some (.int .i64 6) := (kF2'.out.below hb3 kF2'.out.lt).cell 0
       have hb3' := Lib.hid hb3
       clear hown hb3 hv)
    | fail)
  clear k0
  unfold sdC sdN at kS'
  unfold fdC at kF'
  have hbw : Below w.heap.size w w3 := hb2'.out.drew.trans (hb3'.out.mono hb2'.out.size)
  have kF3 := (kF'.out.drew).below hb3'.out kF'.out.lt
  have kS3 := (kS'.out.drew).below hb3'.out kS'.out.lt
  have h0 := kF3.cell 0
  have h1 := kF3.cell 1
  have h2 := kF3.cell 2
  have hbw' := Lib.hid hbw
  have kS3' := Lib.hid kS3
  have hdq := Lib.hid (hdeed'.out w3 hbw)
  clear g3 hbw kF3 kS3 hdeed'
  go_wp2_with ((go_at_call 80; (with_reducible refine Calls.mono hdq.out ?_); rintro e w4 hD4; have hD4' := Lib.hid (hD4.up hbw'.out); obtain ⟨rfl, _, hC4⟩ := hD4; have kS4 : Has w4 (w.heap.size + 1) _ _ := (hC4.block (w.heap.size + 1) kS3'.out.lt (by rintro (h | h); (have := hpl; omega); (obtain ⟨_, cs, hh⟩ := hd'.out.own _ h; have := hh.lt; omega))).trans kS3'.out; have kS4' := Lib.hid kS4; have y0 := kS4.cell 0; have y1 := kS4.cell 1; have y2 := kS4.cell 2; have y3 := kS4.cell 3; have y4 := kS4.cell 4; have z0 := kS4.free 0; have z1 := kS4.free 1; have z2 := kS4.free 2; have z3 := kS4.free 3; have z4 := kS4.free 4; clear kS4 hC4; unfold sdC))
  clear y0 y1 y2 y3 y4 z0 z1 z2 z3 z4 h0 h1 h2
  have kE := Z5_has kS4'.out (.int .i64 (x.getD sdN).1) (.string ⟨(x.getD sdN).2.1.1.toArray⟩) (.string ⟨(x.getD sdN).2.1.2.1.toArray⟩) (.string ⟨(x.getD sdN).2.1.2.2.toArray⟩) (.int .u64 (x.getD sdN).2.2)
  have z0 := kE.cell 0
  have z1 := kE.cell 1
  have z2 := kE.cell 2
  have z3 := kE.cell 3
  have z4 := kE.cell 4
  obtain ⟨_, ⟨dv4, hp4, hd4, ho4⟩, hC4⟩ := hD4'.out
  refine bodyPost_ret (v := .agg (sdC (x.getD sdN))) (by unfold sdC; simp [results, Tryz.results41, go_sem, z0, z1, z2, z3, z4]) rfl ⟨rfl, ⟨dv4, Z5_other hp4 (by omega) _ _ _ _ _, Z5_bs hd4 kS4'.out (by decide) _ _ _ _ _, ho4⟩, Z5_chg hC4 (by omega) _ _ _ _ _⟩
set_option maxRecDepth 100000 in
theorem do_none (nb p sp l m : Nat) (s : PrS) (f : FdT) (dv : Value) (w : World) (hp : Has w p 71 (prC sp dv s l m)) (hd : Bs w nb dv s.data) (hwf : (Lit.int .i64 f.1).wf = true) (hf : Maps.has DeedsD (.int .i64 f.1) = false) :
    Calls Tryz.prog 41 #[.pointer (some ⟨p, 0, none⟩), .agg (fdC f)] w (DeedR nb p sp l m dv.ownBlock s none w) := by
  have hb2 : Below w.heap.size w ((w.alloc (.cells (fdC f) 104)).alloc (.cells (sdC sdN) 40)) := ((Below.refl _ _).alloc (Nat.le_refl _) _).alloc (by simp) _
  have kF := (Has.new w 104 (fdC f)).alloc (.cells (sdC sdN) 40)
  have kS := Has.new (w.alloc (.cells (fdC f) 104)) 40 (sdC sdN)
  rw [World.size_alloc] at kS
  have hdv := Lib.hid (deeds_any (((w.alloc (.cells (fdC f) 104)).alloc (.cells (sdC sdN) 40)).drew))
  have hb2' := Lib.hid hb2
  have kF' := Lib.hid kF
  have kS' := Lib.hid kS
  have hpl := hp.lt
  have hd' := Lib.hid hd
  have hp' := Lib.hid hp
  clear hp hd hb2 kF kS
  obtain ⟨ki, nm, vl⟩ := f
  simp only at hf hwf
  unfold fdC
  go_enter Tryz.func41, Tryz.ntmps41
  go_wp2_with (fail)
  have kF2 := kF'.out.drew
  have hhas' := Lib.hid hf
  have hky' := Lib.hid (keyOf_int_mk Tryz.underlying102 hwf)
  have kF2' := Lib.hid kF2
  clear hf kF2
  unfold fdC sdC sdN at hdv kF2' hb2'
  go_region_held3 (fun W' => W'.cell? ⟨w.heap.size, 0, none⟩ = some (.int .i64 ki))
    (first
    | go_keep
    | fail)
    (first
    | (go_at_call 60; (with_reducible refine Calls.mono hdv.out ?_); rintro e w3 ⟨b, rfl, hown, hb3⟩
       obtain ⟨v, ps, hrun, hv⟩ := hown.look_ok keysF Tryz.underlying135 (zeroF w3) (zd := .lit (.bool false)) (zp := []) rfl hky'.out
       rw [hhas'.out] at hrun
       have g3 : w3.cell? ⟨w.heap.size, 0, none⟩ = some (.int .i64 ki) := (kF2'.out.below hb3 kF2'.out.lt).cell 0
       have hb3' := Lib.hid hb3
       clear hown hb3 hv)
    | fail)
  unfold sdC sdN at kS'
  have hbw : Below w.heap.size w w3 := hb2'.out.drew.trans (hb3'.out.mono hb2'.out.size)
  have kS3 := (kS'.out.drew).below hb3'.out kS'.out.lt
  have y0 := kS3.cell 0
  have y1 := kS3.cell 1
  have y2 := kS3.cell 2
  have y3 := kS3.cell 3
  have y4 := kS3.cell 4
  have z0 := kS3.free 0
  have z1 := kS3.free 1
  have z2 := kS3.free 2
  have z3 := kS3.free 3
  have z4 := kS3.free 4
  have hbw' := Lib.hid hbw
  have kS3' := Lib.hid kS3
  clear g3 hbw kS3
  go_wp2_with (fail)
  clear y0 y1 y2 y3 y4 z0 z1 z2 z3 z4
  have kE := Z5_has kS3'.out (.int .i64 0) (.string ⟨#[]⟩) (.string ⟨#[]⟩) (.string ⟨#[]⟩) (.int .u64 0)
  have z0 := kE.cell 0
  have z1 := kE.cell 1
  have z2 := kE.cell 2
  have z3 := kE.cell 3
  have z4 := kE.cell 4
  refine bodyPost_ret (v := .agg #[.int .i64 0, .string ⟨#[]⟩, .string ⟨#[]⟩, .string ⟨#[]⟩, .int .u64 0]) (by simp [results, Tryz.results41, go_sem, z0, z1, z2, z3, z4]) rfl ⟨rfl, ⟨dv, Z5_other (hp'.out.below hbw'.out hpl) (by omega) _ _ _ _ _, Z5_bs (hd'.out.below hbw'.out) kS3'.out (by decide) _ _ _ _ _, .inr (.inl rfl)⟩, Z5_chg (Chg.of_below hbw'.out) (by omega) _ _ _ _ _⟩
end Go.Proofs.YtlcfpnegpihicaaGreatDoor

namespace Go.Proofs.YtlcfpnegpihicaaGreatDoor
open Go.RowKit Go.Shelf Go.Maps

/-! ## do, whatever the field -/
theorem counts_kind {f : FdT} (h : countsF f = true) : f.1 = 1 ∨ f.1 = 2 ∨ f.1 = 3 ∨ f.1 = 4 ∨ f.1 = 5 ∨ f.1 = 6 ∨ f.1 = 7 := by
  unfold countsF at h
  rw [Bool.and_eq_true] at h
  have h := h.1
  unfold sayF at h
  split at h
  · rename_i h1; exact .inl h1
  · split at h
    · rename_i h2; exact .inr (.inl h2)
    · have h := (of_decide_eq_true h).2.2
      unfold kindK at h
      (repeat' split at h) <;> omega
theorem retry_counts {f : FdT} (h : countsF f = true) (h6 : f.1 = 6) : (retryF f).1 = (numR 10 f.2.2).1 := by
  unfold countsF at h
  rw [Bool.and_eq_true] at h
  unfold retryF
  rw [if_pos ⟨h.1, h6⟩]
theorem doPs_any (nb p sp l m : Nat) (s : PrS) (f : FdT) (dv : Value) (w : World) (hp : Has w p 71 (prC sp dv s l m)) (hd : Bs w nb dv s.data) (hnb : nb ≤ w.heap.size) (hok : s.ok m l) (hl : l ≤ 65536) (hm : m ≤ 65536) (hf : FldOk l f) (hs : f = (0, [], []) ∨ countsF f = true) (h1 : f.2.1.length ≤ 1000000) (hll : s.last.length ≤ 1000000) (hN : NamesT w) (hT : Tab w) :
    Calls Tryz.prog 41 #[.pointer (some ⟨p, 0, none⟩), .agg (fdC f)] w (DeedR nb p sp l m dv.ownBlock (doP m s f).1 (doP m s f).2 w) := by
  have hpl := hp.lt
  have hk := hok.k3
  have hd2 := hok.d2
  have hv := hf.len
  have hpW : ∀ W, Below w.heap.size w W → Has W p 71 (prC sp dv s l m) := fun W hb => hp.below hb hpl
  have hdW : ∀ W, Below w.heap.size w W → Bs W nb dv s.data := fun W hb => hd.below hb
  have hnW : ∀ W, Below w.heap.size w W → nb ≤ W.heap.size := fun W hb => Nat.le_trans hnb hb.size
  by_cases k0 : f.1 = 0
  · rw [show doP m s f = ({ s with long := true }, none) by unfold doP; rw [if_pos k0]]
    exact do_lengthen nb p sp l m s f dv w hp hd hnb k0 _ _ fun W hb => lengthen_any nb p sp l m s f dv W (hpW W hb) (hdW W hb) (hnW W hb)
  have hc : countsF f = true := hs.resolve_left (fun h => k0 (by rw [h]))
  by_cases k1 : f.1 = 1
  · rw [show doP m s f = (prNew s.last, finD m s) by unfold doP; rw [if_neg k0, if_pos k1]]
    exact do_finish nb p sp l m s f dv w hp hd hnb k1 _ _ fun W hb => finishPs_any nb p sp l m s f dv W (hpW W hb) (hdW W hb) (hnW W hb) (by omega) (by omega) hll hm
  by_cases k3 : f.1 = 3
  · rw [show doP m s f = (putD m s f.2.2, none) by unfold doP; rw [if_neg k0, if_neg k1, if_pos k3]]
    exact do_put nb p sp l m s f dv w hp hd hnb k3 _ _ fun W hb => putPs_any nb p sp l m s f dv W (hpW W hb) (hdW W hb) (hnW W hb) (by omega) (by omega) hm
  by_cases k4 : f.1 = 4
  · rw [show doP m s f = ({ s with kind := f.2.2 }, none) by unfold doP; rw [if_neg k0, if_neg k1, if_neg k3, if_pos k4]]
    exact do_name nb p sp l m s f dv w hp hd hnb k4 _ _ fun W hb => namePs_any nb p sp l m s f dv W (hpW W hb) (hdW W hb) (hnW W hb)
  by_cases k5 : f.1 = 5
  · rw [show doP m s f = ({ s with last := f.2.2 }, none) by unfold doP; rw [if_neg k0, if_neg k1, if_neg k3, if_neg k4, if_pos k5]]
    exact do_identify nb p sp l m s f dv w hp hd hnb k5 _ _ fun W hb => identify_any nb p sp l m s f dv W (hpW W hb) (hdW W hb) (hnW W hb)
  by_cases k6 : f.1 = 6
  · rw [show doP m s f = (s, some (2, ([], [], []), (numR 10 f.2.2).1)) by unfold doP; rw [if_neg k0, if_neg k1, if_neg k3, if_neg k4, if_neg k5, if_pos k6], ← retry_counts hc k6]
    exact do_retry nb p sp l m s f dv w hp hd hnb k6 _ _ fun W hb => retryPs_any nb p sp l m s f dv W (hpW W hb) (hdW W hb) (hnW W hb) (by rw [k6]; decide) h1 (by omega) (hN.below hb) (hT.below hb)
  rw [show doP m s f = (s, none) by unfold doP; rw [if_neg k0, if_neg k1, if_neg k3, if_neg k4, if_neg k5, if_neg k6]]
  have hk : f.1 = 2 ∨ f.1 = 7 := by
    rcases counts_kind hc with h | h | h | h | h | h | h
    · exact absurd h k1
    · exact .inl h
    · exact absurd h k3
    · exact absurd h k4
    · exact absurd h k5
    · exact absurd h k6
    · exact .inr h
  exact do_none nb p sp l m s f dv w hp hd (by rcases hk with h | h <;> rw [h] <;> decide) (deedsD_no f.1 hk)
end Go.Proofs.YtlcfpnegpihicaaGreatDoor

namespace Go.Proofs.YtlcfpnegpihicaaGreatDoor
open Go.RowKit Go.Shelf
attribute [local go_sem] Oper.semAt_some

/-! ## said -/
def lineC (x : List UInt8 × Bool) : Array Value := #[.string ⟨x.1.toArray⟩, .bool x.2]
def SaidR (x : List UInt8 × Bool) (w : World) (e : Ending) (w' : World) : Prop :=
  (∃ f, e = .returned (.tuple #[.agg (fdC f), .bool (saidL x).isSome]) ∧ (∀ g, saidL x = some g → f = g)) ∧ Below w.heap.size w w'
set_option maxRecDepth 100000 in
theorem said_long (t : List UInt8) (w : World) : Calls Tryz.prog 63 #[.agg (lineC (t, true))] w (SaidR (t, true) w) := by
  have hb2 : Below w.heap.size w ((w.alloc (.cells (lineC (t, true)) 92)).alloc (.cells (fdC (0, [], [])) 104)) := ((Below.refl _ _).alloc (Nat.le_refl _) _).alloc (by simp) _
  have kL := (Has.new w 92 (lineC (t, true))).alloc (.cells (fdC (0, [], [])) 104)
  have kF := Has.new (w.alloc (.cells (lineC (t, true)) 92)) 104 (fdC (0, [], []))
  rw [World.size_alloc] at kF
  have k1 := kL.cell 1
  have z0 := kF.cell 0
  have z1 := kF.cell 1
  have z2 := kF.cell 2
  have hb2' := Lib.hid hb2
  clear hb2 kL kF
  unfold lineC fdC at *
  go_enter Tryz.func63, Tryz.ntmps63
  go_wp2
  refine bodyPost_ret (v := .tuple #[.agg (fdC (0, [], [])), .bool true]) (by unfold fdC; simp [results, Tryz.results63, go_sem, z0, z1, z2]) rfl ⟨⟨(0, [], []), rfl, fun g hg => by unfold saidL at hg; rw [if_pos rfl] at hg; exact Option.some.inj hg⟩, hb2'.out⟩
set_option maxRecDepth 100000 in
set_option maxHeartbeats 2000000 in
theorem said_short (t : List UInt8) (w : World) (ht : t.length ≤ 65536) (hwf : (Lit.int .i64 (fieldF t).1).wf = true) (hN : NamesT w) (hM : MaxT w) (hT : Tab w) : Calls Tryz.prog 63 #[.agg (lineC (t, false))] w (SaidR (t, false) w) := by
  have hb2 : Below w.heap.size w ((w.alloc (.cells (lineC (t, false)) 92)).alloc (.cells (fdC (0, [], [])) 104)) := ((Below.refl _ _).alloc (Nat.le_refl _) _).alloc (by simp) _
  have kL := (Has.new w 92 (lineC (t, false))).alloc (.cells (fdC (0, [], [])) 104)
  have kF := Has.new (w.alloc (.cells (lineC (t, false)) 92)) 104 (fdC (0, [], []))
  rw [World.size_alloc] at kF
  have k1 := kL.cell 1
  have k0 := kL.cell 0
  have hof := Lib.hid (ofF_any t _ (by omega) (hN.below hb2) (hM.below hb2))
  have hlen := fieldF_len t
  have hb2' := Lib.hid hb2
  have kF' := Lib.hid kF
  have hN' := Lib.hid (hN.below hb2)
  have hT' := Lib.hid (hT.below hb2)
  clear hb2 kL kF hN hM hT
  unfold lineC fdC at *
  go_enter Tryz.func63, Tryz.ntmps63
  go_wp2_with ((go_at_call 83; (with_reducible refine Calls.mono hof.out ?_); rintro e w3 ⟨rfl, hb3⟩; have hb3' := Lib.hid hb3; clear hb3; unfold fieldV))
  have hb3w : Below w.heap.size w w3 := hb2'.out.trans (hb3'.out.mono hb2'.out.size)
  have kF3 := kF'.out.below hb3'.out kF'.out.lt
  have hlt : w.heap.size + 1 < w3.heap.size := kF3.lt
  have kG := Has.new w3 104 #[.int .i64 (fieldF t).1, .string ⟨(fieldF t).2.1.toArray⟩, .string ⟨(fieldF t).2.2.toArray⟩]
  have kF4 := kF3.alloc (.cells #[.int .i64 (fieldF t).1, .string ⟨(fieldF t).2.1.toArray⟩, .string ⟨(fieldF t).2.2.toArray⟩] 104)
  have hN4 := (hN'.out.below hb3'.out).below ((Below.refl _ _).alloc (Nat.le_refl _) (.cells #[.int .i64 (fieldF t).1, .string ⟨(fieldF t).2.1.toArray⟩, .string ⟨(fieldF t).2.2.toArray⟩] 104))
  have hT4 := (hT'.out.below hb3'.out).below ((Below.refl _ _).alloc (Nat.le_refl _) (.cells #[.int .i64 (fieldF t).1, .string ⟨(fieldF t).2.1.toArray⟩, .string ⟨(fieldF t).2.2.toArray⟩] 104))
  have hb4 : Below w.heap.size w (w3.alloc (.cells #[.int .i64 (fieldF t).1, .string ⟨(fieldF t).2.1.toArray⟩, .string ⟨(fieldF t).2.2.toArray⟩] 104)) := hb3w.alloc (by omega) _
  have hz4 : ((w3.alloc (.cells #[.int .i64 (fieldF t).1, .string ⟨(fieldF t).2.1.toArray⟩, .string ⟨(fieldF t).2.2.toArray⟩] 104))).heap.size = w3.heap.size + 1 := by simp
  obtain ⟨W4, hW4⟩ : ∃ W4, (w3.alloc (.cells #[.int .i64 (fieldF t).1, .string ⟨(fieldF t).2.1.toArray⟩, .string ⟨(fieldF t).2.2.toArray⟩] 104)) = W4 := ⟨_, rfl⟩
  rw [hW4] at kG kF4 hN4 hT4 hb4 hz4 ⊢
  clear hW4 hb3w kF3 k1 k0 hof hb2' kF' hN' hT' hb3'
  have hco := Lib.hid (countsF_any (fieldF t) W4.drew hwf (by omega) (by omega) (hN4.below (Below.refl _ _).drew) (hT4.below (Below.refl _ _).drew))
  unfold fieldV at hco
  have kG' := Lib.hid kG.drew
  have kF4' := Lib.hid kF4.drew
  have hb4' := Lib.hid hb4.drew
  have g0 := kG.cell 0
  have g1 := kG.cell 1
  have g2 := kG.cell 2
  clear kG kF4 hN4 hT4 hb4
  go_region_held3 (fun W' => W'.cell? ⟨w3.heap.size, 0, none⟩ = some (.int .i64 (fieldF t).1) ∧ W'.cell? ⟨w3.heap.size, 1, none⟩ = some (.string ⟨(fieldF t).2.1.toArray⟩) ∧ W'.cell? ⟨w3.heap.size, 2, none⟩ = some (.string ⟨(fieldF t).2.2.toArray⟩))
    (first
    | exact ⟨(hset.out _ _ _).cell 0, (hset.out _ _ _).cell 1, (hset.out _ _ _).cell 2⟩
    | go_keep)
    (first
    | (go_at_call 84; (with_reducible refine Calls.mono hco.out ?_); rintro e w5 ⟨rfl, hb5⟩
       have kG5 := kG'.out.below hb5 kG'.out.lt
       have kF5 := kF4'.out.below hb5 kF4'.out.lt
       have j0 := kG5.cell 0
       have j1 := kG5.cell 1
       have j2 := kG5.cell 2
       have y0 := kF5.cell 0
       have y1 := kF5.cell 1
       have y2 := kF5.cell 2
       have z0 := kF5.free 0
       have z1 := kF5.free 1
       have z2 := kF5.free 2
       have kF5' := Lib.hid kF5
       have hne : w3.heap.size ≠ w.heap.size + 1 := by omega
       have hset := Lib.hid (fun a b c => ((kG5.other hne (i := 0) a).other hne (i := 1) b).other hne (i := 2) c)
       have hb5' := Lib.hid hb5
       clear hb5 kG5 kF5)
    | fail)
  go_wp2
  clear y0 y1 y2 z0 z1 z2 j0 j1 j2 g0 g1 g2
  have kE := ((kF5'.out.put 0 (.int .i64 (fieldF t).1)).put 1 (.string ⟨(fieldF t).2.1.toArray⟩)).put 2 (.string ⟨(fieldF t).2.2.toArray⟩)
  have y0 := kE.cell 0
  have y1 := kE.cell 1
  have y2 := kE.cell 2
  have hb5w : Below w.heap.size w w5 := hb4'.out.trans (hb5'.out.mono hb4'.out.size)
  have hsd : saidL (t, false) = if countsF (fieldF t) = true then some (fieldF t) else none := by unfold saidL; rw [if_neg (by simp)]
  refine bodyPost_ret (v := .tuple #[.agg (fdC (fieldF t)), .bool (countsF (fieldF t))]) (by unfold fdC; simp [results, Tryz.results63, go_sem, y0, y1, y2]) rfl ⟨⟨fieldF t, ?_, fun g hg => ?_⟩, ((hb5w.setCell (by simp) _).setCell (by simp) _).setCell (by simp) _⟩
  · rw [hsd]
    cases countsF (fieldF t) <;> rfl
  · rw [hsd] at hg
    split at hg
    · exact Option.some.inj hg
    · cases hg
theorem fieldF_wf (t : List UInt8) : (Lit.int .i64 (fieldF t).1).wf = true := by
  unfold fieldF
  split
  · show (Lit.int .i64 1).wf = true
    decide
  · split
    · show (Lit.int .i64 2).wf = true
      decide
    · generalize (Lib.cut t [58]).1 = n
      show (Lit.int .i64 ((kindK n : Nat) : Int)).wf = true
      unfold kindK
      (repeat' split) <;> decide
theorem said_any (x : List UInt8 × Bool) (w : World) (ht : x.1.length ≤ 65536) (hN : NamesT w) (hM : MaxT w) (hT : Tab w) : Calls Tryz.prog 63 #[.agg (lineC x)] w (SaidR x w) := by
  obtain ⟨t, lg⟩ := x
  cases lg with
  | true => exact said_long t w
  | false => exact said_short t w ht (fieldF_wf t) hN hM hT
/-- What a field is, once a line says it. -/
theorem said_counts {x : List UInt8 × Bool} {g : FdT} (h : saidL x = some g) : g = (0, [], []) ∨ countsF g = true := by
  unfold saidL at h
  split at h
  · exact .inl (Option.some.inj h).symm
  · split at h
    · rename_i hc
      obtain rfl := Option.some.inj h
      exact .inr hc
    · cases h
theorem said_name {x : List UInt8 × Bool} {g : FdT} (h : saidL x = some g) : g.2.1.length ≤ x.1.length := by
  unfold saidL at h
  split at h
  · obtain rfl := Option.some.inj h
    exact Nat.zero_le _
  · split at h
    · obtain rfl := Option.some.inj h
      exact (fieldF_len x.1).1
    · cases h
end Go.Proofs.YtlcfpnegpihicaaGreatDoor

namespace Go.Proofs.YtlcfpnegpihicaaGreatDoor
open Go.RowKit Go.Shelf
attribute [local go_sem] Oper.semAt_some
attribute [local go_sem] wide_fn wide_depth wide_round

/-! ## An iterator that writes a splitter, its decoder and rows of bytes between its rounds -/
/-- What such an iterator may have done: below B nothing but Ch; from B on only splitters, decoders and rows of bytes, and what is no cells. -/
structure Turn (B : Nat) (Ch : Nat → Prop) (a b : World) : Prop where
  os : b.os = a.os
  tape : b.tape = a.tape
  output : b.output = a.output
  size : a.heap.size ≤ b.heap.size
  low : ∀ k, k < B → k < a.heap.size → ¬ Ch k → b.heap[k]? = a.heap[k]?
  high : ∀ k o, a.heap[k]? = some o → (k < B ∨ o.isCells = true) → (∀ cs fr, o ≠ .cells cs 5 fr) → (∀ cs fr, o ≠ .cells cs 168 fr) → (∀ cs fr, o ≠ .cells cs 208 fr) → b.heap[k]? = some o
section
variable {B : Nat} {Ch : Nat → Prop} {a b c : World}
theorem Turn.refl (B : Nat) (Ch : Nat → Prop) (a : World) : Turn B Ch a a := ⟨rfl, rfl, rfl, Nat.le_refl _, fun _ _ _ _ => rfl, fun _ _ h _ _ _ _ => h⟩
theorem Turn.trans (h : Turn B Ch a b) (k : Turn B Ch b c) : Turn B Ch a c :=
  ⟨k.os.trans h.os, k.tape.trans h.tape, k.output.trans h.output, Nat.le_trans h.size k.size, fun i hi hl hn => (k.low i hi (Nat.lt_of_lt_of_le hl h.size) hn).trans (h.low i hi hl hn),
    fun i o ho hB h1 h2 h3 => k.high i o (h.high i o ho hB h1 h2 h3) hB h1 h2 h3⟩
theorem Turn.of_below (h : Below a.heap.size a b) : Turn B Ch a b := ⟨h.os, h.tape, h.output, h.size, fun k _ hl _ => h.block k hl, fun k _ ho _ _ _ _ => (h.block k (Array.getElem?_eq_some_iff.1 ho).1).trans ho⟩
theorem Turn.alloc (B : Nat) (Ch : Nat → Prop) (a : World) (o : Obj) : Turn B Ch a (a.alloc o) := .of_below ((Below.refl _ _).alloc (Nat.le_refl _) _)
theorem Turn.drewN (h : Turn B Ch a b) (q : Nat) : Turn B Ch a (b.drewN q) := ⟨h.os, h.tape, h.output, h.size, h.low, h.high⟩
theorem Turn.putObj {l : Nat} {o : Obj} (o' : Obj) (hB : B ≤ l) (hl : a.heap[l]? = some o) (ho : o.isCells = false) : Turn B Ch a (a.putObj l o') :=
  ⟨rfl, rfl, rfl, by simp [World.putObj], fun k hk _ _ => World.putObj_heap_other (by omega), fun k o2 h2 hc _ _ _ => by
    refine (World.putObj_heap_other (fun e => ?_)).trans h2
    subst e
    rw [hl] at h2
    obtain rfl := Option.some.inj h2
    rcases hc with hc | hc
    · omega
    · rw [ho] at hc; cases hc⟩
theorem Turn.down {B' : Nat} (h : Turn B' Ch a b) (hB : B ≤ B') : Turn B Ch a b := ⟨h.os, h.tape, h.output, h.size, fun k hk => h.low k (by omega), fun k o ho hc => h.high k o ho (hc.imp (fun h => by omega) id)⟩
theorem Turn.mono {Ch' : Nat → Prop} (h : Turn B Ch a b) (hC : ∀ k, k < B → Ch k → Ch' k) : Turn B Ch' a b := ⟨h.os, h.tape, h.output, h.size, fun k hk hl hn => h.low k hk hl (fun h => hn (hC k hk h)), h.high⟩
theorem Turn.obj {k : Nat} {o : Obj} (h : Turn B Ch a b) (ho : a.heap[k]? = some o) (hc : o.isCells = false) (hB : k < B) : b.heap[k]? = some o :=
  h.high k o ho (.inl hB) (fun _ _ e => by subst e; cases hc) (fun _ _ e => by subst e; cases hc) (fun _ _ e => by subst e; cases hc)
theorem Turn.cells {k : Nat} {cs : Array Value} {t : TypeId} {fr : Nat × Nat} (h : Turn B Ch a b) (ho : a.heap[k]? = some (.cells cs t fr)) (ht : t ≠ 5 ∧ t ≠ 168 ∧ t ≠ 208) : b.heap[k]? = some (.cells cs t fr) :=
  h.high k _ ho (.inr rfl) (fun _ _ e => ht.1 (by injection e)) (fun _ _ e => ht.2.1 (by injection e)) (fun _ _ e => ht.2.2 (by injection e))
theorem Turn.has {k : Nat} {cs : Array Value} {t : TypeId} (h : Turn B Ch a b) (ho : Has a k t cs) (ht : t ≠ 5 ∧ t ≠ 168 ∧ t ≠ 208) : Has b k t cs := h.cells ho ht
theorem Turn.chg {S : Nat → Prop} {w : World} (h : Turn B Ch a b) (hw : Chg S w a) (hB : w.heap.size ≤ B) (hC : ∀ k, k < w.heap.size → Ch k → S k) : Chg S w b :=
  ⟨h.os.trans hw.os, h.tape.trans hw.tape, h.output.trans hw.output, Nat.le_trans hw.size h.size, fun k hk hn => (h.low k (by omega) (Nat.lt_of_lt_of_le hk hw.size) (fun hc => hn (hC k hk hc))).trans (hw.block k hk hn)⟩
/-- Out of what a call changed: only splitters, decoders and rows of bytes. -/
theorem Turn.of_chg {S : Nat → Prop} (h : Chg S a b) (hS : ∀ k, S k → k < a.heap.size → (Ch k ∨ B ≤ k) ∧ ∃ cs t fr, a.heap[k]? = some (.cells cs t fr) ∧ (t = 5 ∨ t = 168 ∨ t = 208)) : Turn B Ch a b :=
  ⟨h.os, h.tape, h.output, h.size, fun k hk hl hn => h.block k hl (fun hs => by
    rcases (hS k hs hl).1 with h1 | h1
    · exact hn h1
    · omega), fun k o ho _ h1 h2 h3 => by
    have hl := (Array.getElem?_eq_some_iff.1 ho).1
    refine (h.block k hl (fun hs => ?_)).trans ho
    obtain ⟨_, cs, t, fr, he, ht⟩ := hS k hs hl
    rw [ho] at he
    obtain rfl := Option.some.inj he
    rcases ht with rfl | rfl | rfl
    · exact h1 _ _ rfl
    · exact h2 _ _ rfl
    · exact h3 _ _ rfl⟩
end
/-- What the caller's round must leave alone: all below n0 but Wr, and from n0 on all cells but rows of lines. -/
structure KeepL (n0 : Nat) (Wr : Nat → Prop) (W W' : World) : Prop where
  size : W.heap.size ≤ W'.heap.size
  low : ∀ k, k < n0 → k < W.heap.size → ¬ Wr k → W'.heap[k]? = W.heap[k]?
  high : ∀ k cs t fr, W.heap[k]? = some (.cells cs t fr) → t ≠ 92 → ¬ Wr k → W'.heap[k]? = some (.cells cs t fr)
section
variable {n0 : Nat} {Wr : Nat → Prop} {A B C : World}
theorem KeepL.refl (n0 : Nat) (Wr : Nat → Prop) (W : World) : KeepL n0 Wr W W := ⟨Nat.le_refl _, fun _ _ _ _ => rfl, fun _ _ _ _ h _ _ => h⟩
theorem KeepL.trans (h : KeepL n0 Wr A B) (k : KeepL n0 Wr B C) : KeepL n0 Wr A C :=
  ⟨Nat.le_trans h.size k.size, fun i hi hl hn => (k.low i hi (Nat.lt_of_lt_of_le hl h.size) hn).trans (h.low i hi hl hn), fun i cs t fr h1 h2 h3 => k.high i cs t fr (h.high i cs t fr h1 h2 h3) h2 h3⟩
theorem KeepL.below (h : Below A.heap.size A B) : KeepL n0 Wr A B := ⟨h.size, fun k _ hl _ => h.block k hl, fun k _ _ _ h1 _ _ => (h.block k (Array.getElem?_eq_some_iff.1 h1).1).trans h1⟩
theorem KeepL.setCell (h : KeepL n0 Wr A B) {p : Addr} (hp : Wr p.block) (u : Value) : KeepL n0 Wr A (B.setCell p u) :=
  h.trans ⟨by simp [World.setCell], fun k _ _ h3 => Below.heap_setCell B p u k (fun e => h3 (e ▸ hp)), fun k _ _ _ h1 _ h3 => (Below.heap_setCell B p u k (fun e => h3 (e ▸ hp))).trans h1⟩
theorem KeepL.putObj (W : World) (l : Nat) (o o' : Obj) (hn : n0 ≤ l) (h : W.heap[l]? = some o) (hc : o.isCells = false) : KeepL n0 Wr W (W.putObj l o') :=
  ⟨by simp [World.putObj], fun k hk _ _ => World.putObj_heap_other (by omega), fun k cs t fr h1 _ _ => by
    refine (World.putObj_heap_other (fun e => ?_)).trans h1
    subst e
    rw [h] at h1
    rw [Option.some.inj h1] at hc
    cases hc⟩
theorem KeepL.has {k : Nat} {t : TypeId} {cs : Array Value} (h : KeepL n0 Wr A B) (ht : t ≠ 92) (hk : ¬ Wr k) (hh : Has A k t cs) : Has B k t cs := h.high k cs t _ hh ht hk
theorem KeepL.grown (h : KeepL n0 Wr A B) {row : Option Nat} (hg : B.grownBy C row) (hr : ∀ g, row = some g → n0 ≤ g ∧ ∃ cs, Has B g 92 cs) : KeepL n0 Wr A C :=
  h.trans ⟨hg.size, fun k hk hl _ => hg.block k hl (fun e => by have := (hr k e.symm).1; omega), fun k cs t fr h1 h2 _ => by
    refine (hg.block k (Array.getElem?_eq_some_iff.1 h1).1 (fun e => ?_)).trans h1
    obtain ⟨_, cs', hh⟩ := hr k e.symm
    have hh' : B.heap[k]? = some (.cells cs' 92 (0, 0)) := hh
    rw [hh'] at h1
    injection h1 with h1
    injection h1 with _ h1 _
    exact h2 h1.symm⟩
end
/-- The contract of such an iterator; behind all of it Fin holds. -/
def SeqTurn {α : Type} (n : Nat) (P : Program) (gf : Nat) (lb : Array Value) (encs : α → Array Value) (Kp : World → World → Prop) (Ch : Nat → Prop) (S Sp : List α → Prop) (Fin : World → Prop) (N : Nat) (w : World) : Prop :=
  ∀ (l : Nat) (J Jx : List α → World → Prop) (W : World), Below w.heap.size w W → (∀ pre X Y, J pre X → Turn W.heap.size Ch X Y → J pre Y) → (∀ pre X Y, Jx pre X → Turn W.heap.size Ch X Y → Jx pre Y) →
    (∀ pre x V, J pre V → pre.length < N → YieldAt Fence.wide (n - 1) P l (encs x) V fun e V' => KeepsFrom W.heap.size V V' ∧
      ((e = .returned (.bool true) ∧ J (pre ++ [x]) V' ∧ Kp V V') ∨ (e = .returned (.bool false) ∧ Jx (pre ++ [x]) V'))) → J [] W →
    CallsIn Fence.wide n P gf (#[.func (.yield l) #[] #[]] ++ lb) W fun e V => (∃ v, e = .returned v) ∧ ((∃ xs, S xs ∧ J xs V ∧ Fin V) ∨ (∃ pre, Sp pre ∧ Jx pre V))
end Go.Proofs.YtlcfpnegpihicaaGreatDoor
namespace Go.Proofs.YtlcfpnegpihicaaGreatDoor
open Go.RowKit Go.Shelf
attribute [local go_sem] Oper.semAt_some
attribute [local go_sem] wide_fn wide_depth wide_round

/-! ## The same where the round's variable lies in a box -/
set_option maxHeartbeats 1000000 in
theorem wpIn_range_turnH {α : Type} {n : Nat} {P : Program} {g : Operand} {ps : Array Tmp} {assign body : Code} {Q : Exit → Act → World → Prop} {a : Act} {w : World} (id : Nat)
    {gf : Nat} {lb : Array Value} (hg : a.eval g = .func (.func gf) #[] lb) (eg : ∀ args w, (callFunc gf args).run P w = .ok (.enter gf args) w)
    {encs : α → Array Value} {Kp : World → World → Prop} {Ch : Nat → Prop} {S Sp : List α → Prop} {Fin : World → Prop} {N : Nat} {w0 : World} (hseq : SeqTurn (n - 1) P gf lb encs Kp Ch S Sp Fin N w0)
    (hKt : ∀ {A B C : World}, Kp A B → Kp B C → Kp A C) (hKb : ∀ (W : World) (l : Nat) (o o' : Obj), w.heap.size ≤ l → W.heap[l]? = some o → o.isCells = false → o.isWalk = false → Kp W (W.putObj l o'))
    (hb0 : Below w0.heap.size w0 w) (hps : ∀ x, (encs x).size = ps.size)
    (I : List α → World → Prop) (Ix : Code → List α → World → Prop) (M : World → Prop) (hI : ∀ pre X Y, I pre X → Turn w.heap.size Ch X Y → I pre Y) (hIx : ∀ c pre X Y, Ix c pre X → Turn w.heap.size Ch X Y → Ix c pre Y) (hF : ∀ (W : World) (l : Nat) (o o' : Obj), Fin W → W.heap[l]? = some o → o.isCells = false → Fin (W.putObj l o')) (h0 : I [] w)
    (hall : ∀ xs W, S xs → I xs W → Fin W → M W) (hleft : ∀ c pre W, Sp pre → Ix c pre W → c = .exit id ∧ M W) (Ax : α → Act → World → Prop) (hAx : ∀ x a' (W : World) (l : Nat) (o o' : Obj), Ax x a' W → W.heap[l]? = some o → o.isCells = false → Ax x a' (W.putObj l o'))
    (hassign : ∀ (l : Nat) (pre : List α) (x : α) (W : World) (K : Act → World → Prop), I pre W → (∀ a' W', KeepsFrom w.heap.size W W' → Kp W W' → I pre W' → Ax x a' W' → K a' W') →
      assign.wpIn (Fence.wide.inRound l) (n - 1 - 1) P (Exit.then K (fun _ _ _ => False)) { tmps := (ps.zip (encs x)).foldl (fun t (p, v) => t.setIfInBounds p v) a.tmps, defers := [] } W)
    (hbody : ∀ (l : Nat) (pre : List α) (x : α) (a' : Act) (W : World), w.heap.size ≤ l → (∃ r, W.heap[l]? = some (.loop r)) → I pre W → Ax x a' W → pre.length < N → body.wpIn (Fence.wide.inRound l) (n - 1 - 1) P (ownPostG w.heap.size Kp I Ix (pre ++ [x]) W) a' W)
    (hq : ∀ a W, Q .normal a W → Q (.exit id) a W)
    (hrest : ∀ (D : Nat) (W : World), w.heap.size ≤ D → M W → NoCalls W D → Q .normal { a with defers := { target := .collected D, args := #[] } :: a.defers } W) :
    (Code.rangeFunc g ps assign body).wpIn Fence.wide n P Q a w := by
  refine wpIn_rangeFunc fun fn hfn => ?_
  obtain ⟨rc, hrc⟩ : ∃ rc : LoopState → Option Code → Loop, rc = fun st pe => { state := st, pending := pe, fn, tmps := a.tmps, params := ps, assign, body, defers := w.heap.size } := ⟨_, rfl⟩
  obtain ⟨V, hV⟩ : ∃ V, (w.alloc (.deferred (some []))).alloc (.loop (rc .ready none)) = V := ⟨_, rfl⟩
  have zV : V.heap.size = w.heap.size + 1 + 1 := by rw [← hV]; simp
  have lr : V.heap[w.heap.size + 1]? = some (.loop (rc .ready none)) := by rw [← hV]; have := World.alloc_heap_new (w.alloc (.deferred (some []))) (.loop (rc .ready none)); rwa [World.size_alloc] at this
  have ld : V.heap[w.heap.size]? = some (.deferred (some [])) := by rw [← hV]; exact (Below.heap_alloc _ _ _ (by simp)).trans (World.alloc_heap_new w _)
  have hIV : I [] V := by rw [← hV]; exact hI _ _ _ h0 ((Turn.alloc _ _ _ _).trans (Turn.alloc _ _ _ _))
  have hbV : Below w0.heap.size w0 V := by rw [← hV]; exact hb0.trans ((((Below.refl _ w).alloc (Nat.le_refl _) _).alloc (by simp) _).mono hb0.size)
  refine ⟨w.heap.size + 1, [{ target := .collected w.heap.size, args := #[] }], V, { target := .fn (.func gf) lb, args := #[.func (.yield (w.heap.size + 1)) #[] #[]] }, V, gf, #[.func (.yield (w.heap.size + 1)) #[] #[]] ++ lb, V, ?_, ?_, fun _ _ => trivial, ?_, fun h => (by cases h), ?_⟩
  · rw [← hV, hrc]; exact run_enterLoop_outer _ _ _ _ _
  · simp only [resolve, hg]; simp [go_sem]
  · simp [invoke, go_sem, eg]
  · refine (hseq (w.heap.size + 1) (fun pre W => I pre W ∧ W.heap[w.heap.size + 1]? = some (.loop (rc .ready none)) ∧ W.heap[w.heap.size]? = some (.deferred (some [])))
      (fun pre W => ∃ c, Ix c pre W ∧ W.heap[w.heap.size + 1]? = some (.loop (rc .done (some c))) ∧ W.heap[w.heap.size]? = some (.deferred (some []))) V hbV
      (fun s X Y hs ht => ⟨hI s X Y hs.1 (ht.down (by omega)), ht.obj hs.2.1 rfl (by omega), ht.obj hs.2.2 rfl (by omega)⟩)
      (fun s X Y hs ht => by
        obtain ⟨c, h1, h2, h3⟩ := hs
        exact ⟨c, hIx c s X Y h1 (ht.down (by omega)), ht.obj h2 rfl (by omega), ht.obj h3 rfl (by omega)⟩) ?_ ⟨hIV, lr, ld⟩).mono ?_
    · rintro pre x X0 ⟨hi0, hl0, hd0⟩ hlen
      have hy := run_yield (P := P) (args := encs x) hl0 (by rw [hrc]; exact hps x)
      rw [hrc] at hy
      refine ⟨fn, _, assign, body, hy, roundIn_of_wpIn hfn (hassign _ pre x X0 _ hi0 (fun a' X hkf0 hkp0 hi hax => ?_))⟩
      have hl := hkf0.same _ _ (by omega) hl0 rfl
      have hd := hkf0.same _ _ (Nat.le_refl _) hd0 rfl
      refine ⟨_, run_beginRound hl (by rw [hrc]), ?_⟩
      have hlt : w.heap.size + 1 < X.heap.size := (Array.getElem?_eq_some_iff.1 hl).1
      obtain ⟨Y, hY⟩ : ∃ Y, X.putObj (w.heap.size + 1) (.loop { rc .ready none with state := .busy }) = Y := ⟨_, rfl⟩
      rw [hY]
      have yl : Y.heap[w.heap.size + 1]? = some (.loop { rc .ready none with state := .busy }) := by rw [← hY]; exact World.putObj_heap_same hlt
      have yd : Y.heap[w.heap.size]? = some (.deferred (some [])) := by rw [← hY]; exact (World.putObj_heap_other (by omega)).trans hd
      have yi : I pre Y := by rw [← hY]; exact hI _ _ _ hi (Turn.putObj _ (by omega) hl rfl)
      have yk : Kp X Y := by rw [← hY]; exact hKb _ _ _ _ (by omega) hl rfl rfl
      have ys : Y.heap.size = X.heap.size := by rw [← hY]; simp [World.putObj]
      have ya : Ax x a' Y := by rw [← hY]; exact hAx _ _ _ _ _ _ hax hl rfl
      have kV : KeepsFrom V.heap.size X0 X := KeepsFrom.up hkf0 (by omega)
      refine wpIn_mono (hbody _ pre x a' Y (by omega) ⟨_, yl⟩ yi ya hlen) ?_
      have fin : ∀ (jump : Option Code) (Z : World), KeepsFrom w.heap.size Y Z →
          (Instr.endRound (w.heap.size + 1) jump).run P Z = .ok (.bool jump.isNone) (Z.putObj (w.heap.size + 1) (.loop (rc (if jump.isNone then .ready else .done) jump))) ∧
          Z.heap[w.heap.size + 1]? = some (.loop { rc .ready none with state := .busy }) ∧
          (Z.putObj (w.heap.size + 1) (.loop (rc (if jump.isNone then .ready else .done) jump))).heap[w.heap.size + 1]? = some (.loop (rc (if jump.isNone then .ready else .done) jump)) ∧
          (Z.putObj (w.heap.size + 1) (.loop (rc (if jump.isNone then .ready else .done) jump))).heap[w.heap.size]? = some (.deferred (some [])) ∧
          KeepsFrom V.heap.size X (Z.putObj (w.heap.size + 1) (.loop (rc (if jump.isNone then .ready else .done) jump))) := fun jump Z hk => by
        have zl := hk.same _ _ (by omega) yl rfl
        have := run_endRound (P := P) jump zl
        rw [hrc] at this ⊢
        refine ⟨this, by rw [hrc] at zl; exact zl, World.putObj_heap_same (Array.getElem?_eq_some_iff.1 zl).1, (World.putObj_heap_other (by omega)).trans (hk.same _ _ (Nat.le_refl _) yd rfl), ?_, fun k o hk1 hk2 hk3 => ?_⟩
        · have := hk.size; simp [World.putObj]; omega
        · refine (World.putObj_heap_other (by omega)).trans (hk.same k o (by omega) ?_ hk3)
          rw [← hY]
          exact (World.putObj_heap_other (by omega)).trans hk2
      rintro e a3 Z hp
      cases e with
      | normal =>
        obtain ⟨hk3, hkp3, hi3⟩ := hp
        obtain ⟨hr, hl3, hl4, hk4, hkf⟩ := fin none Z hk3
        exact ⟨_, _, hr, kV.trans hkf, .inl ⟨rfl, ⟨hI _ _ _ hi3 (Turn.putObj _ (by omega) hl3 rfl), hl4, hk4⟩, hKt (hKt (hKt hkp0 yk) hkp3) (hKb _ _ _ _ (by omega) hl3 rfl rfl)⟩⟩
      | ret =>
        obtain ⟨hk3, hi3⟩ := hp
        obtain ⟨hr, hl3, hl4, hk4, hkf⟩ := fin (some .ret) Z hk3
        exact ⟨_, _, hr, kV.trans hkf, .inr ⟨rfl, .ret, hIx _ _ _ _ hi3 (Turn.putObj _ (by omega) hl3 rfl), hl4, hk4⟩⟩
      | exit id' =>
        obtain ⟨hk3, hi3⟩ := hp
        obtain ⟨hr, hl3, hl4, hk4, hkf⟩ := fin (some (.exit id')) Z hk3
        exact ⟨_, _, hr, kV.trans hkf, .inr ⟨rfl, .exit id', hIx _ _ _ _ hi3 (Turn.putObj _ (by omega) hl3 rfl), hl4, hk4⟩⟩
      | goto t =>
        obtain ⟨hk3, hi3⟩ := hp
        obtain ⟨hr, hl3, hl4, hk4, hkf⟩ := fin (some (.goto t)) Z hk3
        exact ⟨_, _, hr, kV.trans hkf, .inr ⟨rfl, .goto t, hIx _ _ _ _ hi3 (Turn.putObj _ (by omega) hl3 rfl), hl4, hk4⟩⟩
      | panic ch => exact hp.elim
      | outgrown => exact hp.elim
    · rintro e Z ⟨⟨v, rfl⟩, (⟨xs, hS, ⟨hi, hl, hk⟩, hf⟩ | ⟨pre, hSp, c, hi, hl, hk⟩)⟩
      · exact ⟨none, _, by have := run_endLoop (P := P) hl (by rw [hrc]; simp); rw [hrc] at this; exact this, hrest _ _ (Nat.le_refl _) (hall xs _ hS (hI _ _ _ hi (Turn.putObj _ (by omega) hl rfl)) (hF _ _ _ _ hf hl rfl)) ((World.putObj_heap_other (by omega)).trans hk)⟩
      · have hix := hIx c _ _ _ hi (Turn.putObj (.loop { rc .done (some c) with state := .exhausted }) (by omega) hl rfl)
        obtain ⟨rfl, hM⟩ := hleft c pre _ hSp hix
        exact ⟨some (.exit id), _, by have := run_endLoop (P := P) hl (by rw [hrc]; simp); rw [hrc] at this ⊢; exact this, wpIn_exit (hq _ _ (hrest _ _ (Nat.le_refl _) hM ((World.putObj_heap_other (by omega)).trans hk)))⟩
end Go.Proofs.YtlcfpnegpihicaaGreatDoor
