import Derived.Test.YtlcfpnegpihicaaGreatDoorPw9
import Derived.Test.YtlcfpnegpihicaaGreatDoorPw10
import Derived.Test.YtlcfpnegpihicaaGreatDoorPw6
import Derived.Test.YtlcfpnegpihicaaGreatDoorPw8
import Derived.Laws.StructEq
import Derived.BigQuiet
namespace Go.Proofs.YtlcfpnegpihicaaGreatDoor
open Go.RowKit Go.Shelf
attribute [local go_sem] Oper.semAt_some

/-! ## A parser in memory; what fields do -/
def prC (sp : Nat) (dv : Value) (s : PrS) (l m : Nat) : Array Value := #[.pointer (some ⟨sp, 0, none⟩), .string ⟨s.kind.toArray⟩, dv, .bool s.long, .string ⟨s.last.toArray⟩, .int .i64 (l : Int), .int .i64 (m : Int)]
def fdC (f : FdT) : Array Value := #[.int .i64 f.1, .string ⟨f.2.1.toArray⟩, .string ⟨f.2.2.toArray⟩]
def sdC (x : Sd) : Array Value := #[.int .i64 x.1, .string ⟨x.2.1.1.toArray⟩, .string ⟨x.2.1.2.1.toArray⟩, .string ⟨x.2.1.2.2.toArray⟩, .int .u64 x.2.2]
def sdN : Sd := (0, ([], [], []), 0)
def DeedR (nb p sp l m : Nat) (od : Option Nat) (s' : PrS) (x : Option Sd) (w : World) (r : Ending) (w' : World) : Prop :=
  r = .returned (.agg (sdC (x.getD sdN))) ∧ (∃ dv, Has w' p 71 (prC sp dv s' l m) ∧ Bs w' nb dv s'.data ∧ (dv.ownBlock = none ∨ dv.ownBlock = od ∨ ∃ k, dv.ownBlock = some k ∧ w.heap.size ≤ k)) ∧ Chg (fun k => k = p ∨ od = some k) w w'
set_option maxRecDepth 100000 in
theorem lengthen_any (nb p sp l m : Nat) (s : PrS) (f : FdT) (dv : Value) (w : World) (hp : Has w p 71 (prC sp dv s l m)) (hd : Bs w nb dv s.data) (hnb : nb ≤ w.heap.size) :
    Calls Tryz.prog 75 #[.pointer (some ⟨p, 0, none⟩), .agg (fdC f)] w (DeedR nb p sp l m dv.ownBlock { s with long := true } none w) := by
  have hpl := hp.lt
  have hp' := Lib.hid hp
  have hd' := Lib.hid hd
  have hb2 : Below w.heap.size w ((w.alloc (.cells (fdC f) 104)).alloc (.cells (sdC sdN) 40)) := ((Below.refl _ _).alloc (Nat.le_refl _) _).alloc (by simp) _
  have hp2 := hp.below hb2 hpl
  have f3 := hp2.free 3
  have c3 := hp2.cell 3
  unfold prC at c3
  have kF := (Has.new w 104 (fdC f)).alloc (.cells (sdC sdN) 40)
  have k2 := kF.cell 2
  clear hp hd hb2 hp2 kF
  unfold fdC sdC sdN at f3 c3 k2
  unfold fdC
  go_enter Tryz.func75, Tryz.ntmps75
  go_wp2
  clear f3 c3 k2
  have hsz : (w.setCell ⟨p, 3, none⟩ (.bool true)).heap.size = w.heap.size := by simp
  have kS := Has.new ((w.setCell ⟨p, 3, none⟩ (.bool true)).alloc (.cells #[.int .i64 f.1, .string ⟨f.2.1.toArray⟩, .string ⟨f.2.2.toArray⟩] 104)) 40 #[.int .i64 0, .string ⟨#[]⟩, .string ⟨#[]⟩, .string ⟨#[]⟩, .int .u64 0]
  rw [World.size_alloc, hsz] at kS
  have z0 := kS.cell 0
  have z1 := kS.cell 1
  have z2 := kS.cell 2
  have z3 := kS.cell 3
  have z4 := kS.cell 4
  refine bodyPost_ret (v := .agg #[.int .i64 0, .string ⟨#[]⟩, .string ⟨#[]⟩, .string ⟨#[]⟩, .int .u64 0]) (by simp [results, Tryz.results75, go_sem, z0, z1, z2, z3, z4]) rfl ⟨rfl, ⟨dv, ((hp'.out.put 3 (.bool true)).alloc _).alloc _, ?_, .inr (.inl rfl)⟩, ?_⟩
  · exact (hd'.out.kept (fun g hg => Below.heap_setCell _ _ _ g (fun e => by
      obtain ⟨_, cs, hh⟩ := hd'.out.own g hg
      exact hh.apart hp'.out (by decide) e))).below (((Below.refl _ _).alloc (Nat.le_refl _) _).alloc (by simp) _)
  · exact (chg_set (S := fun k => k = p ∨ dv.ownBlock = some k) (w := w) (k := p) (i := 3) (.inl rfl) (.bool true) _ rfl).trans (Chg.of_below (((Below.refl _ _).alloc (Nat.le_refl _) _).alloc (by simp) _))
set_option maxRecDepth 100000 in
theorem namePs_any (nb p sp l m : Nat) (s : PrS) (f : FdT) (dv : Value) (w : World) (hp : Has w p 71 (prC sp dv s l m)) (hd : Bs w nb dv s.data) (hnb : nb ≤ w.heap.size) :
    Calls Tryz.prog 78 #[.pointer (some ⟨p, 0, none⟩), .agg (fdC f)] w (DeedR nb p sp l m dv.ownBlock { s with kind := f.2.2 } none w) := by
  have hpl := hp.lt
  have hp' := Lib.hid hp
  have hd' := Lib.hid hd
  have hb2 : Below w.heap.size w ((w.alloc (.cells (fdC f) 104)).alloc (.cells (sdC sdN) 40)) := ((Below.refl _ _).alloc (Nat.le_refl _) _).alloc (by simp) _
  have hp2 := hp.below hb2 hpl
  have f3 := hp2.free 1
  have c3 := hp2.cell 1
  unfold prC at c3
  have kF := (Has.new w 104 (fdC f)).alloc (.cells (sdC sdN) 40)
  have k2 := kF.cell 2
  clear hp hd hb2 hp2 kF
  unfold fdC sdC sdN at f3 c3 k2
  unfold fdC
  go_enter Tryz.func78, Tryz.ntmps78
  go_wp2
  clear f3 c3 k2
  have hsz : (w.setCell ⟨p, 1, none⟩ (.string ⟨f.2.2.toArray⟩)).heap.size = w.heap.size := by simp
  have kS := Has.new ((w.setCell ⟨p, 1, none⟩ (.string ⟨f.2.2.toArray⟩)).alloc (.cells #[.int .i64 f.1, .string ⟨f.2.1.toArray⟩, .string ⟨f.2.2.toArray⟩] 104)) 40 #[.int .i64 0, .string ⟨#[]⟩, .string ⟨#[]⟩, .string ⟨#[]⟩, .int .u64 0]
  rw [World.size_alloc, hsz] at kS
  have z0 := kS.cell 0
  have z1 := kS.cell 1
  have z2 := kS.cell 2
  have z3 := kS.cell 3
  have z4 := kS.cell 4
  refine bodyPost_ret (v := .agg #[.int .i64 0, .string ⟨#[]⟩, .string ⟨#[]⟩, .string ⟨#[]⟩, .int .u64 0]) (by simp [results, Tryz.results78, go_sem, z0, z1, z2, z3, z4]) rfl ⟨rfl, ⟨dv, ((hp'.out.put 1 (.string ⟨f.2.2.toArray⟩)).alloc _).alloc _, ?_, .inr (.inl rfl)⟩, ?_⟩
  · exact (hd'.out.kept (fun g hg => Below.heap_setCell _ _ _ g (fun e => by
      obtain ⟨_, cs, hh⟩ := hd'.out.own g hg
      exact hh.apart hp'.out (by decide) e))).below (((Below.refl _ _).alloc (Nat.le_refl _) _).alloc (by simp) _)
  · exact (chg_set (S := fun k => k = p ∨ dv.ownBlock = some k) (w := w) (k := p) (i := 1) (.inl rfl) (.string ⟨f.2.2.toArray⟩) _ rfl).trans (Chg.of_below (((Below.refl _ _).alloc (Nat.le_refl _) _).alloc (by simp) _))
set_option maxRecDepth 100000 in
theorem identify_any (nb p sp l m : Nat) (s : PrS) (f : FdT) (dv : Value) (w : World) (hp : Has w p 71 (prC sp dv s l m)) (hd : Bs w nb dv s.data) (hnb : nb ≤ w.heap.size) :
    Calls Tryz.prog 79 #[.pointer (some ⟨p, 0, none⟩), .agg (fdC f)] w (DeedR nb p sp l m dv.ownBlock { s with last := f.2.2 } none w) := by
  have hpl := hp.lt
  have hp' := Lib.hid hp
  have hd' := Lib.hid hd
  have hb2 : Below w.heap.size w ((w.alloc (.cells (fdC f) 104)).alloc (.cells (sdC sdN) 40)) := ((Below.refl _ _).alloc (Nat.le_refl _) _).alloc (by simp) _
  have hp2 := hp.below hb2 hpl
  have f3 := hp2.free 4
  have c3 := hp2.cell 4
  unfold prC at c3
  have kF := (Has.new w 104 (fdC f)).alloc (.cells (sdC sdN) 40)
  have k2 := kF.cell 2
  clear hp hd hb2 hp2 kF
  unfold fdC sdC sdN at f3 c3 k2
  unfold fdC
  go_enter Tryz.func79, Tryz.ntmps79
  go_wp2
  clear f3 c3 k2
  have hsz : (w.setCell ⟨p, 4, none⟩ (.string ⟨f.2.2.toArray⟩)).heap.size = w.heap.size := by simp
  have kS := Has.new ((w.setCell ⟨p, 4, none⟩ (.string ⟨f.2.2.toArray⟩)).alloc (.cells #[.int .i64 f.1, .string ⟨f.2.1.toArray⟩, .string ⟨f.2.2.toArray⟩] 104)) 40 #[.int .i64 0, .string ⟨#[]⟩, .string ⟨#[]⟩, .string ⟨#[]⟩, .int .u64 0]
  rw [World.size_alloc, hsz] at kS
  have z0 := kS.cell 0
  have z1 := kS.cell 1
  have z2 := kS.cell 2
  have z3 := kS.cell 3
  have z4 := kS.cell 4
  refine bodyPost_ret (v := .agg #[.int .i64 0, .string ⟨#[]⟩, .string ⟨#[]⟩, .string ⟨#[]⟩, .int .u64 0]) (by simp [results, Tryz.results79, go_sem, z0, z1, z2, z3, z4]) rfl ⟨rfl, ⟨dv, ((hp'.out.put 4 (.string ⟨f.2.2.toArray⟩)).alloc _).alloc _, ?_, .inr (.inl rfl)⟩, ?_⟩
  · exact (hd'.out.kept (fun g hg => Below.heap_setCell _ _ _ g (fun e => by
      obtain ⟨_, cs, hh⟩ := hd'.out.own g hg
      exact hh.apart hp'.out (by decide) e))).below (((Below.refl _ _).alloc (Nat.le_refl _) _).alloc (by simp) _)
  · exact (chg_set (S := fun k => k = p ∨ dv.ownBlock = some k) (w := w) (k := p) (i := 4) (.inl rfl) (.string ⟨f.2.2.toArray⟩) _ rfl).trans (Chg.of_below (((Below.refl _ _).alloc (Nat.le_refl _) _).alloc (by simp) _))
end Go.Proofs.YtlcfpnegpihicaaGreatDoor

namespace Go.Proofs.YtlcfpnegpihicaaGreatDoor
open Go.RowKit Go.Maps

/-! ## Counts -/
theorem askOf5 (b : Nat) : askOf 5 b = .func (.func 129) #[] #[.pointer (some ⟨b, 0, none⟩)] := rfl
theorem askOf6 (b : Nat) : askOf 6 b = .func (.func 130) #[] #[.pointer (some ⟨b, 0, none⟩)] := rfl
theorem askOfN {ki : Int} (h5 : ki ≠ 5) (h6 : ki ≠ 6) (b : Nat) : askOf ki b = .func (.func 108) #[] #[] := by
  unfold askOf; rw [if_neg h5, if_neg h6]
theorem askTo_any (ki : Int) (vl : List UInt8) (B : Nat) (v : Value) (b : Nat) (w : World) (hv : askOf ki b = v) (hb : Has w b 9 #[.string ⟨vl.toArray⟩]) (h2 : vl.length ≤ 1000000) (hT : Tab w) (hB : B ≤ w.heap.size) (Q : Bool) (hQ : (if ki = 5 then !hasNought vl else if ki = 6 then digitsOk vl else true) = Q) :
    ∃ f cs, v = .func (.func f) #[] cs ∧ (∀ W, (callFunc f cs).run Tryz.prog W = .ok (.enter f cs) W) ∧ Calls Tryz.prog f cs w fun e w' => e = .returned (.bool Q) ∧ Below B w w' := by
  subst hv hQ
  by_cases k5 : ki = 5
  · subst k5
    refine ⟨_, _, askOf5 b, fun W => by kernel_rfl, (ask1_any b vl w hb).mono ?_⟩
    rintro e w' ⟨rfl, rfl⟩
    exact ⟨rfl, Below.refl _ _⟩
  by_cases k6 : ki = 6
  · subst k6
    refine ⟨_, _, askOf6 b, fun W => by kernel_rfl, (ask2_any b vl w hb h2 hT).mono ?_⟩
    rintro e w' ⟨rfl, h⟩
    exact ⟨rfl, h.mono hB⟩
  · refine ⟨_, _, askOfN k5 k6 b, fun W => by kernel_rfl, (ask0_any w).mono ?_⟩
    rintro e w' ⟨rfl, rfl⟩
    rw [if_neg k5, if_neg k6]
    exact ⟨rfl, Below.refl _ _⟩
set_option maxRecDepth 100000 in
theorem countsF_any (f : Int × List UInt8 × List UInt8) (w : World) (hwf : (Lit.int .i64 f.1).wf = true) (h1 : f.2.1.length ≤ 1000000) (h2 : f.2.2.length ≤ 1000000) (hN : NamesT w) (hT : Tab w) :
    Calls Tryz.prog 84 #[fieldV f] w fun e w' => e = .returned (.bool (countsF f)) ∧ Below w.heap.size w w' := by
  obtain ⟨ki, nm, vl⟩ := f
  simp only at h1 h2 hwf
  unfold fieldV
  simp only
  have hb1 : Below w.heap.size w ((w.alloc (.cells #[.int .i64 ki, .string ⟨nm.toArray⟩, .string ⟨vl.toArray⟩] 104)).alloc (.cells (undCells (ki, nm, vl) []) 191)) := ((Below.refl _ _).alloc (Nat.le_refl _) _).alloc (by simp) _
  have kU := Has.new (w.alloc (.cells #[.int .i64 ki, .string ⟨nm.toArray⟩, .string ⟨vl.toArray⟩] 104)) 191 (undCells (ki, nm, vl) [])
  have kR := (Has.new w 104 #[.int .i64 ki, .string ⟨nm.toArray⟩, .string ⟨vl.toArray⟩]).alloc (.cells (undCells (ki, nm, vl) []) 191)
  simp only [World.size_alloc] at kU
  obtain ⟨w1, hw1⟩ : ∃ w1, (w.alloc (.cells #[.int .i64 ki, .string ⟨nm.toArray⟩, .string ⟨vl.toArray⟩] 104)).alloc (.cells (undCells (ki, nm, vl) []) 191) = w1 := ⟨_, rfl⟩
  have z1 : w1.heap.size = w.heap.size + 1 + 1 := by rw [← hw1]; simp
  rw [hw1] at hb1 kU kR
  have hw1' := Lib.hid hw1
  have hsy := Lib.hid (sayF_any (w.heap.size + 1) (ki, nm, vl) [] w1 kU h1 (hN.below hb1))
  have hT1 := Lib.hid (hT.below hb1)
  have hb1' := Lib.hid hb1
  have z1' := Lib.hid z1
  have hr1' := Lib.hid kR
  have hall := Lib.hid (fun (W : World) (h : Below w1.heap.size w1 W) => show W.cell? ⟨w.heap.size, 0, none⟩ = some (.int .i64 ki) ∧ W.cell? ⟨w.heap.size, 2, none⟩ = some (.string ⟨vl.toArray⟩) from ⟨(kR.below h (by omega)).cell 0, (kR.below h (by omega)).cell 2⟩)
  clear hw1 hb1 kU z1 hN hT kR
  have hlo : countsF (ki, nm, vl) = (sayF (ki, nm, vl) && (if ki = 5 then !hasNought vl else if ki = 6 then digitsOk vl else true)) := rfl
  have hlo' := Lib.hid hlo
  clear hlo
  obtain ⟨sy, hsye⟩ : ∃ sy, sayF (ki, nm, vl) = sy := ⟨_, rfl⟩
  obtain ⟨Q, hQ⟩ : ∃ Q, (if ki = 5 then !hasNought vl else if ki = 6 then digitsOk vl else true) = Q := ⟨_, rfl⟩
  unfold SayF at hsy
  rw [hsye] at hsy hlo'
  rw [hQ] at hlo'
  have hQ' := Lib.hid hQ
  clear hsye hQ
  cases sy
  · rw [Bool.false_and] at hlo'
    rw [hlo'.out]
    go_enter Tryz.func84, Tryz.ntmps84
    go_upto_region 2 with (fail)
    rw [show (w.alloc (.cells #[.int .i64 ki, .string ⟨nm.toArray⟩, .string ⟨vl.toArray⟩] 104)).alloc (.cells #[.int .i64 ki, .string ⟨nm.toArray⟩, .string ⟨vl.toArray⟩, .string ⟨#[]⟩] 191) = w1 from hw1'.out]
    go_wp2_with (go_at_call 105; (with_reducible refine Calls.mono hsy.out ?_); rintro e w2 ⟨rfl, hb2⟩; have hb2' := Lib.hid hb2; clear hb2)
    go_ret
    exact ⟨rfl, hb1'.out.trans (hb2'.out.mono hb1'.out.size)⟩
  · rw [Bool.true_and] at hlo'
    rw [hlo'.out]
    go_enter Tryz.func84, Tryz.ntmps84
    go_upto_region 2 with (fail)
    rw [show (w.alloc (.cells #[.int .i64 ki, .string ⟨nm.toArray⟩, .string ⟨vl.toArray⟩] 104)).alloc (.cells #[.int .i64 ki, .string ⟨nm.toArray⟩, .string ⟨vl.toArray⟩, .string ⟨#[]⟩] 191) = w1 from hw1'.out]
    go_upto_region 4 with (go_at_call 105; (with_reducible refine Calls.mono hsy.out ?_); rintro e w2 ⟨rfl, hb2⟩; have hb2' := Lib.hid hb2; have hT2 := Lib.hid (hT1.out.below hb2); have hb0 := Lib.hid (hb2.drew); clear hb2)
    go_region_held3 (fun W => W.cell? ⟨w.heap.size, 0, none⟩ = some (.int .i64 ki) ∧ W.cell? ⟨w.heap.size, 2, none⟩ = some (.string ⟨vl.toArray⟩))
      (first
      | with_reducible exact hall.out _ hb3'.out
      | with_reducible exact hall.out _ hb0.out
      | fail)
      (first
      | (go_at_call 107; (with_reducible refine Calls.mono (asks_any vl _) ?_); rintro e w3 ⟨m, rfl, hown, hst, hb3⟩; have hb3' := Lib.hid (hb0.out.trans (hb3.mono hb0.out.size)); have hfo := Lib.hid (foundA_any m _ ki w3 hwf hown); have hst' := Lib.hid hst; have hT3 := Lib.hid (hT2.out.below (show Below w2.heap.size w2 w3 from (Below.refl _ _).drew.trans hb3)); have hz3 := Lib.hid hb3.size; clear hown hst hb3)
      | (go_at_call 106; (with_reducible refine Calls.mono hfo.out ?_); rintro e w4 ⟨rfl, rfl⟩)
      | fail)
    obtain ⟨fv, cs, hv, hrun, hc⟩ := askTo_any ki vl w3.heap.size _ _ w3 rfl hst'.out h2 hT3.out (Nat.le_refl _) Q hQ'.out
    rw [show askOf ki w2.heap.size = .func (.func fv) #[] cs from hv]
    have hc' := Lib.hid hc
    clear hc hv
    go_wp2_with ((with_reducible refine Calls.mono hc'.out ?_); rintro e w5 ⟨rfl, hb5⟩)
    go_ret
    exact ⟨rfl, hb1'.out.trans ((hb3'.out.trans (hb5.mono hb3'.out.size)).mono hb1'.out.size)⟩
/-! ## Retry -/
def Retr (r : Int × Bool) : Ending := .returned (.tuple #[.int .u64 r.1, .bool r.2])
theorem retr_of {r : Int × Bool} {x : Int} {y : Bool} (h : r = (x, y)) : Ending.returned (.tuple #[.int .u64 x, .bool y]) = Retr r := by rw [h]; rfl
set_option maxRecDepth 100000 in
theorem retryF_any (f : Int × List UInt8 × List UInt8) (w : World) (hwf : (Lit.int .i64 f.1).wf = true) (h1 : f.2.1.length ≤ 1000000) (h2 : f.2.2.length ≤ 1000000) (hN : NamesT w) (hT : Tab w) :
    Calls Tryz.prog 99 #[fieldV f] w fun e w' => e = Retr (retryF f) ∧ Below w.heap.size w w' := by
  obtain ⟨ki, nm, vl⟩ := f
  have hb0 : Below w.heap.size w (w.alloc (.cells #[.int .i64 ki, .string ⟨nm.toArray⟩, .string ⟨vl.toArray⟩] 104)) := (Below.refl _ _).alloc (Nat.le_refl _) _
  have hc := Lib.hid (countsF_any (ki, nm, vl) (w.alloc (.cells #[.int .i64 ki, .string ⟨nm.toArray⟩, .string ⟨vl.toArray⟩] 104)) hwf h1 h2 (hN.below hb0) (hT.below hb0))
  have hb0' := Lib.hid hb0
  have kR := Lib.hid (Has.new w 104 #[.int .i64 ki, .string ⟨nm.toArray⟩, .string ⟨vl.toArray⟩])
  unfold fieldV at hc ⊢
  simp only at hc h2 ⊢
  have hd := fun W => digitsCall_any ⟨vl.toArray⟩ (by show vl.toArray.size ≤ _; simp; omega) W
  rw [show (ByteArray.mk vl.toArray).data.toList = vl from by simp] at hd
  have hT' := Lib.hid (hT.below hb0)
  clear hN hT hb0
  by_cases k6 : ki = 6
  · subst k6
    have hcf : countsF (6, nm, vl) = (sayF (6, nm, vl) && digitsOk vl) := rfl
    cases hs : countsF (6, nm, vl) with
    | false =>
      have hres : retryF (6, nm, vl) = (0, false) := by
        rw [hcf] at hs
        unfold retryF
        by_cases h : sayF (6, nm, vl) = true
        · rw [h, Bool.true_and] at hs
          rw [if_pos ⟨h, rfl⟩, numR_bad 10 vl (by unfold digitsOk at hs; simpa using hs), hs]
        · rw [if_neg (fun e => h e.1)]
      have hres' := Lib.hid hres
      rw [hs] at hc
      clear hres hs hcf hd
      go_enter Tryz.func99, Tryz.ntmps99
      go_wp2_with ((go_at_call 84; (with_reducible refine Calls.mono hc.out ?_); rintro e w2 ⟨rfl, hb2⟩))
      go_ret2
      exact ⟨retr_of hres'.out, hb0'.out.trans (hb2.mono hb0'.out.size)⟩
    | true =>
      rw [hcf, Bool.and_eq_true] at hs
      have hres : retryF (6, nm, vl) = ((numR 10 vl).1, true) := by unfold retryF; rw [if_pos ⟨hs.1, rfl⟩, hs.2]
      have hres' := Lib.hid hres
      rw [hcf, hs.1, hs.2] at hc
      clear hres hs hcf
      generalize numR 10 vl = r at hd hres'
      have hd' := Lib.hid hd
      clear hd
      go_enter Tryz.func99, Tryz.ntmps99
      go_wp2_with (first
        | (go_at_call 84; (with_reducible refine Calls.mono hc.out ?_); rintro e w2 ⟨rfl, hb2⟩; have hb2' := Lib.hid hb2; have hT2 := Lib.hid (hT'.out.below hb2); have x2 := (kR.out.below hb2 kR.out.lt).cell 2; clear hb2)
        | (go_at_call 118; (with_reducible refine Calls.mono (hd'.out _ hT2.out) ?_); rintro e w3 ⟨rfl, hb3⟩; simp only [Two]))
      go_ret2
      exact ⟨retr_of hres'.out, hb0'.out.trans ((hb2'.out.trans (hb3.mono hb2'.out.size)).mono hb0'.out.size)⟩
  · have hres : retryF (ki, nm, vl) = (0, false) := by unfold retryF; rw [if_neg (fun e => k6 e.2)]
    have hres' := Lib.hid hres
    clear hres hd
    go_enter Tryz.func99, Tryz.ntmps99
    go_wp2
    go_ret2
    exact ⟨retr_of hres'.out, hb0'.out⟩
end Go.Proofs.YtlcfpnegpihicaaGreatDoor

namespace Go.Proofs.YtlcfpnegpihicaaGreatDoor
open Go.RowKit Go.Shelf
attribute [local go_sem] Oper.semAt_some

/-! ## retry; what a line says -/
set_option maxRecDepth 100000 in
theorem retryPs_any (nb p sp l m : Nat) (s : PrS) (f : FdT) (dv : Value) (w : World) (hp : Has w p 71 (prC sp dv s l m)) (hd : Bs w nb dv s.data) (hnb : nb ≤ w.heap.size) (hwf : (Lit.int .i64 f.1).wf = true) (h1 : f.2.1.length ≤ 1000000) (h2 : f.2.2.length ≤ 1000000) (hN : NamesT w) (hT : Tab w) :
    Calls Tryz.prog 80 #[.pointer (some ⟨p, 0, none⟩), .agg (fdC f)] w (DeedR nb p sp l m dv.ownBlock s (some (2, ([], [], []), (retryF f).1)) w) := by
  have hpl := hp.lt
  have hb2 : Below w.heap.size w ((w.alloc (.cells (fdC f) 104)).alloc (.cells (sdC sdN) 40)) := ((Below.refl _ _).alloc (Nat.le_refl _) _).alloc (by simp) _
  have kF := (Has.new w 104 (fdC f)).alloc (.cells (sdC sdN) 40)
  have kS := Has.new (w.alloc (.cells (fdC f) 104)) 40 (sdC sdN)
  rw [World.size_alloc] at kS
  have hr := Lib.hid (retryF_any f _ hwf h1 h2 (hN.below hb2) (hT.below hb2))
  have hb2' := Lib.hid hb2
  have kS' := Lib.hid kS
  have hp' := Lib.hid hp
  have hd' := Lib.hid hd
  have k0 := kF.cell 0
  have k1 := kF.cell 1
  have k2 := kF.cell 2
  clear hp hd hb2 kF kS hN hT
  obtain ⟨ki, nm, vl⟩ := f
  unfold fieldV at hr
  unfold fdC sdC sdN at hr k0 k1 k2 kS'
  unfold fdC
  generalize hq : retryF (ki, nm, vl) = q at hr ⊢
  obtain ⟨rn, rb⟩ := q
  clear hq
  unfold Retr at hr
  go_enter Tryz.func80, Tryz.ntmps80
  go_wp2_with ((go_at_call 99; (with_reducible refine Calls.mono hr.out ?_); rintro e w2 ⟨rfl, hb3⟩; have hb3' := Lib.hid hb3; have kS3 := kS'.out.below hb3 kS'.out.lt; have z0 := kS3.free 0; have z1 := kS3.free 1; have z2 := kS3.free 2; have z3 := kS3.free 3; have z4 := kS3.free 4; have y0 := kS3.cell 0; have y1 := kS3.cell 1; have y2 := kS3.cell 2; have y3 := kS3.cell 3; have y4 := kS3.cell 4; have kS3' := Lib.hid kS3; clear hb3 kS3))
  have hB := Lib.hid (hb2'.out.trans (hb3'.out.mono hb2'.out.size))
  have kE := ((((kS3'.out.put 0 (.int .i64 2)).put 1 (.string ⟨#[]⟩)).put 2 (.string ⟨#[]⟩)).put 3 (.string ⟨#[]⟩)).put 4 (.int .u64 rn)
  have x0 := kE.cell 0
  have x1 := kE.cell 1
  have x2 := kE.cell 2
  have x3 := kE.cell 3
  have x4 := kE.cell 4
  have hp1 : p ≠ w.heap.size + 1 := by omega
  have hBB : Below w.heap.size w (((((w2.setCell ⟨w.heap.size + 1, 0, none⟩ (.int .i64 2)).setCell ⟨w.heap.size + 1, 1, none⟩ (.string ⟨#[]⟩)).setCell ⟨w.heap.size + 1, 2, none⟩ (.string ⟨#[]⟩)).setCell ⟨w.heap.size + 1, 3, none⟩ (.string ⟨#[]⟩)).setCell ⟨w.heap.size + 1, 4, none⟩ (.int .u64 rn)) := ((((hB.out.setCell (by simp) _).setCell (by simp) _).setCell (by simp) _).setCell (by simp) _).setCell (by simp) _
  refine bodyPost_ret (v := .agg #[.int .i64 2, .string ⟨#[]⟩, .string ⟨#[]⟩, .string ⟨#[]⟩, .int .u64 rn]) (by simp [results, Tryz.results80, go_sem, x0, x1, x2, x3, x4]) rfl ⟨rfl, ⟨dv, hp'.out.below hBB hpl, hd'.out.below hBB, .inr (.inl rfl)⟩, Chg.of_below hBB⟩
end Go.Proofs.YtlcfpnegpihicaaGreatDoor

namespace Go.Proofs.YtlcfpnegpihicaaGreatDoor
open Go.RowKit

/-! ## The document's reading: the mathematics -/
def manyN (c : Nat) : Nat := if c < 128 then 1 else if c < 192 then 0 else if c < 224 then 2 else if c < 240 then 3 else if c < 248 then 4 else 0
def firstN (c : Nat) : Nat := if c < 128 then c else if c < 224 then c % 32 else if c < 240 then c % 16 else c % 8
def at0 (x : List UInt8) (i : Nat) : Nat := (x.getD i 0).toNat
/-- The least and the most point, i bytes behind the first one being reckoned with. -/
def lowN (x : List UInt8) : Nat → Nat
  | 0 => firstN (at0 x 0)
  | i + 1 => 64 * lowN x i + (if i + 1 < x.length then at0 x (i + 1) % 64 else 0)
def topN (x : List UInt8) : Nat → Nat
  | 0 => firstN (at0 x 0)
  | i + 1 => 64 * topN x i + (if i + 1 < x.length then at0 x (i + 1) % 64 else 63)
/-- So many bytes behind the first one are as bytes behind a first one are. -/
def contN (x : List UInt8) : Nat → Bool
  | 0 => true
  | i + 1 => contN x i && (decide (x.length ≤ i + 1) || (decide (128 ≤ at0 x (i + 1)) && decide (at0 x (i + 1) ≤ 191)))
def spanOk (x : List UInt8) : Bool := decide (manyN (at0 x 0) ≠ 0) && contN x (manyN (at0 x 0) - 1)
def tblN (m : Nat) : Nat := if m = 2 then 128 else if m = 3 then 2048 else if m = 4 then 65536 else 0
def beginsOk (x : List UInt8) : Bool :=
  spanOk x && decide (x.length ≤ manyN (at0 x 0)) && (! (decide (manyN (at0 x 0) = 3) && decide (55296 ≤ max (lowN x (manyN (at0 x 0) - 1)) (tblN (manyN (at0 x 0)))) && decide (min (topN x (manyN (at0 x 0) - 1)) 1114111 ≤ 57343))) &&
    decide (max (lowN x (manyN (at0 x 0) - 1)) (tblN (manyN (at0 x 0))) ≤ min (topN x (manyN (at0 x 0) - 1)) 1114111)
/-- Some point's bytes begin with these. -/
def okp (x : List UInt8) : Prop := kOf (at0 x 0) ≠ 9 ∧ x.length ≤ moreN (kOf (at0 x 0)) + 1 ∧ ∀ j, 1 ≤ j → j < x.length → inR (kOf (at0 x 0)) j (at0 x j)
theorem lt256 (b : UInt8) : b.toNat < 256 := b.toNat_lt
theorem okp1 (c : UInt8) : okp [c] ↔ kOf c.toNat ≠ 9 := by
  unfold okp
  simp only [at0, List.getD_cons_zero, List.length_cons, List.length_nil]
  constructor
  · exact fun h => h.1
  · exact fun h => ⟨h, by omega, fun j h1 h2 => by omega⟩
theorem okp2 (c b : UInt8) : okp [c, b] ↔ kOf c.toNat ≠ 9 ∧ 1 ≤ moreN (kOf c.toNat) ∧ inR (kOf c.toNat) 1 b.toNat := by
  unfold okp
  simp only [at0, List.getD_cons_zero, List.length_cons, List.length_nil]
  constructor
  · exact fun h => ⟨h.1, by omega, h.2.2 1 (by omega) (by omega)⟩
  · exact fun h => ⟨h.1, by omega, fun j h1 h2 => by obtain rfl : j = 1 := (by omega); exact h.2.2⟩
theorem okp3 (c b d : UInt8) : okp [c, b, d] ↔ kOf c.toNat ≠ 9 ∧ 2 ≤ moreN (kOf c.toNat) ∧ inR (kOf c.toNat) 1 b.toNat ∧ inR (kOf c.toNat) 2 d.toNat := by
  unfold okp
  simp only [at0, List.getD_cons_zero, List.length_cons, List.length_nil]
  constructor
  · exact fun h => ⟨h.1, by omega, h.2.2 1 (by omega) (by omega), h.2.2 2 (by omega) (by omega)⟩
  · refine fun h => ⟨h.1, by omega, fun j h1 h2 => ?_⟩
    have : j = 1 ∨ j = 2 := by omega
    rcases this with rfl | rfl
    · exact h.2.2.1
    · exact h.2.2.2
theorem okp4 (c b d f : UInt8) : okp [c, b, d, f] ↔ kOf c.toNat ≠ 9 ∧ 3 ≤ moreN (kOf c.toNat) ∧ inR (kOf c.toNat) 1 b.toNat ∧ inR (kOf c.toNat) 2 d.toNat ∧ inR (kOf c.toNat) 3 f.toNat := by
  unfold okp
  simp only [at0, List.getD_cons_zero, List.length_cons, List.length_nil]
  constructor
  · exact fun h => ⟨h.1, by omega, h.2.2 1 (by omega) (by omega), h.2.2 2 (by omega) (by omega), h.2.2 3 (by omega) (by omega)⟩
  · refine fun h => ⟨h.1, by omega, fun j h1 h2 => ?_⟩
    have : j = 1 ∨ j = 2 ∨ j = 3 := by omega
    rcases this with rfl | rfl | rfl
    · exact h.2.2.1
    · exact h.2.2.2.1
    · exact h.2.2.2.2
/-- The test of many, least and top alone. -/
def testN (m low top : Nat) : Bool := (! (decide (m = 3) && decide (55296 ≤ max low (tblN m)) && decide (min top 1114111 ≤ 57343))) && decide (max low (tblN m) ≤ min top 1114111)
theorem test1 (low top : Nat) : testN 1 low top = decide (low ≤ top ∧ low ≤ 1114111) := by
  unfold testN tblN; rw [Bool.eq_iff_iff]; simp; omega
theorem test2 (low top : Nat) : testN 2 low top = decide (max low 128 ≤ min top 1114111) := by
  unfold testN tblN; rw [Bool.eq_iff_iff]; simp
theorem test3 (low top : Nat) : testN 3 low top = decide (¬ (55296 ≤ max low 2048 ∧ min top 1114111 ≤ 57343) ∧ max low 2048 ≤ min top 1114111) := by
  unfold testN tblN; rw [Bool.eq_iff_iff]; simp
theorem test4 (low top : Nat) : testN 4 low top = decide (max low 65536 ≤ min top 1114111) := by
  unfold testN tblN; rw [Bool.eq_iff_iff]; simp
theorem beginsOk_eq (x : List UInt8) : beginsOk x = (spanOk x && decide (x.length ≤ manyN (at0 x 0)) && testN (manyN (at0 x 0)) (lowN x (manyN (at0 x 0) - 1)) (topN x (manyN (at0 x 0) - 1))) := by
  unfold beginsOk testN; simp only [Bool.and_assoc]
theorem okp_no {x : List UInt8} (h : kOf (at0 x 0) = 9) : ¬ okp x := fun hh => hh.1 h
theorem firstN_of (c : Nat) (hc : c < 256) : (manyN c = 1 → firstN c = c ∧ c < 128) ∧ (manyN c = 2 → firstN c = c - 192 ∧ 192 ≤ c ∧ c < 224) ∧ (manyN c = 3 → firstN c = c - 224 ∧ 224 ≤ c ∧ c < 240) ∧ (manyN c = 4 → firstN c = c - 240 ∧ 240 ≤ c ∧ c < 248) := by
  have key : ∀ i : Fin 256, (manyN i.val = 1 → firstN i.val = i.val ∧ i.val < 128) ∧ (manyN i.val = 2 → firstN i.val = i.val - 192 ∧ 192 ≤ i.val ∧ i.val < 224) ∧ (manyN i.val = 3 → firstN i.val = i.val - 224 ∧ 224 ≤ i.val ∧ i.val < 240) ∧ (manyN i.val = 4 → firstN i.val = i.val - 240 ∧ 240 ≤ i.val ∧ i.val < 248) := by decide +kernel
  exact key ⟨c, hc⟩
theorem bo_eval {x : List UInt8} {m : Nat} (hm : manyN (at0 x 0) = m) (h0 : m ≠ 0) : beginsOk x = (contN x (m - 1) && decide (x.length ≤ m) && testN m (lowN x (m - 1)) (topN x (m - 1))) := by
  rw [beginsOk_eq, spanOk, hm, decide_eq_true (by simpa using h0)]; simp
theorem bo_none {x : List UInt8} (hm : manyN (at0 x 0) = 0) : beginsOk x = false := by
  rw [beginsOk_eq, spanOk, hm]; simp
theorem bo_long {x : List UInt8} (h : manyN (at0 x 0) < x.length) : beginsOk x = false := by
  rw [beginsOk_eq, decide_eq_false (show ¬ x.length ≤ manyN (at0 x 0) from by omega)]; simp
theorem okp_long {x : List UInt8} (h : moreN (kOf (at0 x 0)) + 1 < x.length) : ¬ okp x := fun hh => by have := hh.2.1; omega
theorem more_many (c : Nat) (hc : c < 256) (h : kOf c ≠ 9) : moreN (kOf c) + 1 = manyN c := by
  have key : ∀ i : Fin 256, kOf i.val ≠ 9 → moreN (kOf i.val) + 1 = manyN i.val := by decide +kernel
  exact key ⟨c, hc⟩ h
/-! The test, by how many bytes are there -/
theorem t11 {q : Nat} (h : q < 128) : testN 1 q q = true := by rw [test1]; exact decide_eq_true (by omega)
theorem t2 {q u v : Nat} (h : q < 32) (hu : 64 * q ≤ u) (hv : v ≤ 64 * q + 63) (hq : u ≤ v) : testN 2 u v = true ↔ 2 ≤ q := by rw [test2, decide_eq_true_iff]; omega
theorem t31 {q : Nat} (h : q < 16) : testN 3 (64 * (64 * q)) (64 * (64 * q + 63) + 63) = true := by rw [test3]; exact decide_eq_true (by omega)
theorem t32 {q r u v : Nat} (h : q < 16) (hr : r < 64) (hu : 64 * (64 * q + r) ≤ u) (hv : v ≤ 64 * (64 * q + r) + 63) (hq : u ≤ v) : testN 3 u v = true ↔ (q = 0 → 32 ≤ r) ∧ (q = 13 → r < 32) := by rw [test3, decide_eq_true_iff]; omega
theorem t41 {q : Nat} (h : q < 8) : testN 4 (64 * (64 * (64 * q))) (64 * (64 * (64 * q + 63) + 63) + 63) = true ↔ q ≤ 4 := by rw [test4, decide_eq_true_iff]; omega
theorem t42 {q r u v : Nat} (h : q < 8) (hr : r < 64) (hu : 64 * (64 * (64 * q + r)) ≤ u) (hv : v ≤ 64 * (64 * (64 * q + r) + 63) + 63) (hq : u ≤ v) : testN 4 u v = true ↔ (q = 0 → 16 ≤ r) ∧ q ≤ 4 ∧ (q = 4 → r < 16) := by rw [test4, decide_eq_true_iff]; omega
theorem rows_ok (c : Nat) (hc : c < 256) : (manyN c = 0 → kOf c = 9) ∧ (manyN c = 1 → kOf c = 0) ∧
    (manyN c = 2 → (kOf c ≠ 9 ↔ 194 ≤ c) ∧ (kOf c ≠ 9 → moreN (kOf c) = 1 ∧ loN (kOf c) 1 = 128 ∧ hiN (kOf c) 1 = 191)) ∧
    (manyN c = 3 → kOf c ≠ 9 ∧ moreN (kOf c) = 2 ∧ (c = 224 → loN (kOf c) 1 = 160) ∧ (c ≠ 224 → loN (kOf c) 1 = 128) ∧ (c = 237 → hiN (kOf c) 1 = 159) ∧ (c ≠ 237 → hiN (kOf c) 1 = 191) ∧ loN (kOf c) 2 = 128 ∧ hiN (kOf c) 2 = 191) ∧
    (manyN c = 4 → (kOf c ≠ 9 ↔ c ≤ 244) ∧ (kOf c ≠ 9 → moreN (kOf c) = 3 ∧ (c = 240 → loN (kOf c) 1 = 144) ∧ (c ≠ 240 → loN (kOf c) 1 = 128) ∧ (c = 244 → hiN (kOf c) 1 = 143) ∧ (c ≠ 244 → hiN (kOf c) 1 = 191) ∧ loN (kOf c) 2 = 128 ∧ hiN (kOf c) 2 = 191 ∧ loN (kOf c) 3 = 128 ∧ hiN (kOf c) 3 = 191)) := by
  have k1 : ∀ i : Fin 256, (manyN i.val = 0 → kOf i.val = 9) ∧ (manyN i.val = 1 → kOf i.val = 0) := by decide +kernel
  have k2 : ∀ i : Fin 256, manyN i.val = 2 → (kOf i.val ≠ 9 ↔ 194 ≤ i.val) ∧ (kOf i.val ≠ 9 → moreN (kOf i.val) = 1 ∧ loN (kOf i.val) 1 = 128 ∧ hiN (kOf i.val) 1 = 191) := by decide +kernel
  have k3 : ∀ i : Fin 256, manyN i.val = 3 → kOf i.val ≠ 9 ∧ moreN (kOf i.val) = 2 ∧ (i.val = 224 → loN (kOf i.val) 1 = 160) ∧ (i.val ≠ 224 → loN (kOf i.val) 1 = 128) := by decide +kernel
  have k3' : ∀ i : Fin 256, manyN i.val = 3 → (i.val = 237 → hiN (kOf i.val) 1 = 159) ∧ (i.val ≠ 237 → hiN (kOf i.val) 1 = 191) ∧ loN (kOf i.val) 2 = 128 ∧ hiN (kOf i.val) 2 = 191 := by decide +kernel
  have k4 : ∀ i : Fin 256, manyN i.val = 4 → (kOf i.val ≠ 9 ↔ i.val ≤ 244) ∧ (kOf i.val ≠ 9 → moreN (kOf i.val) = 3 ∧ (i.val = 240 → loN (kOf i.val) 1 = 144) ∧ (i.val ≠ 240 → loN (kOf i.val) 1 = 128)) := by decide +kernel
  have k4' : ∀ i : Fin 256, manyN i.val = 4 → kOf i.val ≠ 9 → (i.val = 244 → hiN (kOf i.val) 1 = 143) ∧ (i.val ≠ 244 → hiN (kOf i.val) 1 = 191) ∧ loN (kOf i.val) 2 = 128 ∧ hiN (kOf i.val) 2 = 191 := by decide +kernel
  have k4'' : ∀ i : Fin 256, manyN i.val = 4 → kOf i.val ≠ 9 → loN (kOf i.val) 3 = 128 ∧ hiN (kOf i.val) 3 = 191 := by decide +kernel
  exact ⟨(k1 ⟨c, hc⟩).1, (k1 ⟨c, hc⟩).2, k2 ⟨c, hc⟩, fun m => ⟨(k3 ⟨c, hc⟩ m).1, (k3 ⟨c, hc⟩ m).2.1, (k3 ⟨c, hc⟩ m).2.2.1, (k3 ⟨c, hc⟩ m).2.2.2, k3' ⟨c, hc⟩ m⟩,
    fun m => ⟨(k4 ⟨c, hc⟩ m).1, fun h => ⟨((k4 ⟨c, hc⟩ m).2 h).1, ((k4 ⟨c, hc⟩ m).2 h).2.1, ((k4 ⟨c, hc⟩ m).2 h).2.2, (k4' ⟨c, hc⟩ m h).1, (k4' ⟨c, hc⟩ m h).2.1, (k4' ⟨c, hc⟩ m h).2.2.1, (k4' ⟨c, hc⟩ m h).2.2.2, k4'' ⟨c, hc⟩ m h⟩⟩⟩
theorem inR_iff (k j b : Nat) : inR k j b ↔ loN k j ≤ b ∧ b ≤ hiN k j := Iff.rfl
theorem many_le (c : Nat) : manyN c = 0 ∨ manyN c = 1 ∨ manyN c = 2 ∨ manyN c = 3 ∨ manyN c = 4 := by unfold manyN; (repeat' split) <;> omega
set_option maxHeartbeats 1000000 in
theorem begins1 (c : UInt8) : beginsOk [c] = true ↔ okp [c] := by
  obtain ⟨n, hn⟩ : ∃ n, c.toNat = n := ⟨_, rfl⟩
  have h0 : at0 [c] 0 = n := hn
  have hc : n < 256 := by rw [← hn]; exact lt256 _
  obtain ⟨f1, f2, f3, f4⟩ := firstN_of n hc
  obtain ⟨r0, r1, r2, r3, r4⟩ := rows_ok n hc
  rw [okp1, hn]
  rcases many_le n with m | m | m | m | m
  · rw [bo_none (by rw [h0]; exact m), r0 m]; simp
  · have e : beginsOk [c] = testN 1 (firstN n) (firstN n) := by rw [bo_eval (m := 1) (by rw [h0]; exact m) (by decide)]; simp [contN, lowN, topN, h0]
    rw [e, (f1 m).1, t11 (f1 m).2, r1 m]; simp
  · have e : beginsOk [c] = testN 2 (64 * firstN n) (64 * firstN n + 63) := by rw [bo_eval (m := 2) (by rw [h0]; exact m) (by decide)]; simp [contN, lowN, topN, h0]
    have f := f2 m
    rw [e, (r2 m).1, t2 (q := firstN n) (by omega) (by omega) (by omega) (by omega)]; omega
  · have e : beginsOk [c] = testN 3 (64 * (64 * firstN n)) (64 * (64 * firstN n + 63) + 63) := by rw [bo_eval (m := 3) (by rw [h0]; exact m) (by decide)]; simp [contN, lowN, topN, h0]
    have f := f3 m
    have r := (r3 m).1
    rw [e, t31 (by omega)]; simp [r]
  · have e : beginsOk [c] = testN 4 (64 * (64 * (64 * firstN n))) (64 * (64 * (64 * firstN n + 63) + 63) + 63) := by rw [bo_eval (m := 4) (by rw [h0]; exact m) (by decide)]; simp [contN, lowN, topN, h0]
    have f := f4 m
    rw [e, (r4 m).1, t41 (by omega)]; omega
set_option maxHeartbeats 1000000 in
theorem begins2 (c b : UInt8) (hm : 2 ≤ manyN c.toNat) : beginsOk [c, b] = true ↔ okp [c, b] := by
  obtain ⟨n, hn⟩ : ∃ n, c.toNat = n := ⟨_, rfl⟩
  have h0 : at0 [c, b] 0 = n := hn
  have h1 : at0 [c, b] 1 = b.toNat := rfl
  have hc : n < 256 := by rw [← hn]; exact lt256 _
  obtain ⟨f1, f2, f3, f4⟩ := firstN_of n hc
  obtain ⟨r0, r1, r2, r3, r4⟩ := rows_ok n hc
  rw [hn] at hm
  rw [okp2, hn, inR_iff]
  generalize b.toNat = y at h1
  rcases many_le n with m | m | m | m | m
  · omega
  · omega
  · have e : beginsOk [c, b] = true ↔ (128 ≤ y ∧ y ≤ 191) ∧ testN 2 (64 * firstN n + y % 64) (64 * firstN n + y % 64) = true := by rw [bo_eval (m := 2) (by rw [h0]; exact m) (by decide)]; simp [contN, lowN, topN, h0, h1]
    have f := f2 m
    have r := r2 m
    rw [e, t2 (q := firstN n) (by omega) (by omega) (by omega) (by omega)]; omega
  · have e : beginsOk [c, b] = true ↔ (128 ≤ y ∧ y ≤ 191) ∧ testN 3 (64 * (64 * firstN n + y % 64)) (64 * (64 * firstN n + y % 64) + 63) = true := by rw [bo_eval (m := 3) (by rw [h0]; exact m) (by decide)]; simp [contN, lowN, topN, h0, h1]
    have f := f3 m
    have r := r3 m
    rw [e, t32 (q := firstN n) (r := y % 64) (by omega) (by omega) (by omega) (by omega) (by omega)]; omega
  · have e : beginsOk [c, b] = true ↔ (128 ≤ y ∧ y ≤ 191) ∧ testN 4 (64 * (64 * (64 * firstN n + y % 64))) (64 * (64 * (64 * firstN n + y % 64) + 63) + 63) = true := by rw [bo_eval (m := 4) (by rw [h0]; exact m) (by decide)]; simp [contN, lowN, topN, h0, h1]
    have f := f4 m
    have r := r4 m
    rw [e, t42 (q := firstN n) (r := y % 64) (by omega) (by omega) (by omega) (by omega) (by omega)]; omega
set_option maxHeartbeats 1000000 in
theorem begins3 (c b d : UInt8) (hm : 3 ≤ manyN c.toNat) : beginsOk [c, b, d] = true ↔ okp [c, b, d] := by
  obtain ⟨n, hn⟩ : ∃ n, c.toNat = n := ⟨_, rfl⟩
  have h0 : at0 [c, b, d] 0 = n := hn
  have h1 : at0 [c, b, d] 1 = b.toNat := rfl
  have h2 : at0 [c, b, d] 2 = d.toNat := rfl
  have hc : n < 256 := by rw [← hn]; exact lt256 _
  obtain ⟨f1, f2, f3, f4⟩ := firstN_of n hc
  obtain ⟨r0, r1, r2, r3, r4⟩ := rows_ok n hc
  rw [hn] at hm
  rw [okp3, hn, inR_iff, inR_iff]
  generalize b.toNat = y at h1
  generalize d.toNat = z at h2
  rcases many_le n with m | m | m | m | m
  · omega
  · omega
  · omega
  · have e : beginsOk [c, b, d] = true ↔ ((128 ≤ y ∧ y ≤ 191) ∧ (128 ≤ z ∧ z ≤ 191)) ∧ testN 3 (64 * (64 * firstN n + y % 64) + z % 64) (64 * (64 * firstN n + y % 64) + z % 64) = true := by rw [bo_eval (m := 3) (by rw [h0]; exact m) (by decide)]; simp [contN, lowN, topN, h0, h1, h2]
    have f := f3 m
    have r := r3 m
    rw [e, t32 (q := firstN n) (r := y % 64) (by omega) (by omega) (by omega) (by omega) (by omega)]; omega
  · have e : beginsOk [c, b, d] = true ↔ ((128 ≤ y ∧ y ≤ 191) ∧ (128 ≤ z ∧ z ≤ 191)) ∧ testN 4 (64 * (64 * (64 * firstN n + y % 64) + z % 64)) (64 * (64 * (64 * firstN n + y % 64) + z % 64) + 63) = true := by rw [bo_eval (m := 4) (by rw [h0]; exact m) (by decide)]; simp [contN, lowN, topN, h0, h1, h2]
    have f := f4 m
    have r := r4 m
    rw [e, t42 (q := firstN n) (r := y % 64) (by omega) (by omega) (by omega) (by omega) (by omega)]; omega
set_option maxHeartbeats 1000000 in
theorem begins4 (c b d f : UInt8) (hm : 4 ≤ manyN c.toNat) : beginsOk [c, b, d, f] = true ↔ okp [c, b, d, f] := by
  obtain ⟨n, hn⟩ : ∃ n, c.toNat = n := ⟨_, rfl⟩
  have h0 : at0 [c, b, d, f] 0 = n := hn
  have h1 : at0 [c, b, d, f] 1 = b.toNat := rfl
  have h2 : at0 [c, b, d, f] 2 = d.toNat := rfl
  have h3 : at0 [c, b, d, f] 3 = f.toNat := rfl
  have hc : n < 256 := by rw [← hn]; exact lt256 _
  obtain ⟨f1, f2, f3, f4⟩ := firstN_of n hc
  obtain ⟨r0, r1, r2, r3, r4⟩ := rows_ok n hc
  rw [hn] at hm
  rw [okp4, hn, inR_iff, inR_iff, inR_iff]
  generalize b.toNat = y at h1
  generalize d.toNat = z at h2
  generalize f.toNat = u at h3
  rcases many_le n with m | m | m | m | m
  · omega
  · omega
  · omega
  · omega
  · have e : beginsOk [c, b, d, f] = true ↔ (((128 ≤ y ∧ y ≤ 191) ∧ (128 ≤ z ∧ z ≤ 191)) ∧ (128 ≤ u ∧ u ≤ 191)) ∧ testN 4 (64 * (64 * (64 * firstN n + y % 64) + z % 64) + u % 64) (64 * (64 * (64 * firstN n + y % 64) + z % 64) + u % 64) = true := by rw [bo_eval (m := 4) (by rw [h0]; exact m) (by decide)]; simp [contN, lowN, topN, h0, h1, h2, h3]
    have f := f4 m
    have r := r4 m
    rw [e, t42 (q := firstN n) (r := y % 64) (by omega) (by omega) (by omega) (by omega) (by omega)]; omega
theorem begins_okp (x : List UInt8) (h1 : 1 ≤ x.length) (h4 : x.length ≤ 4) : beginsOk x = true ↔ okp x := by
  obtain ⟨n, hn⟩ : ∃ n, at0 x 0 = n := ⟨_, rfl⟩
  have hc : n < 256 := by rw [← hn]; exact lt256 _
  rcases Nat.lt_or_ge (manyN n) x.length with hlong | hshort
  · rw [bo_long (by rw [hn]; exact hlong)]
    refine ⟨fun h => (by cases h), fun h => absurd h ?_⟩
    by_cases h9 : kOf n = 9
    · exact okp_no (by rw [hn]; exact h9)
    · exact okp_long (by rw [hn, more_many n hc h9]; exact hlong)
  · rw [← hn] at hshort
    match x, h1, h4, hshort with
    | [c], _, _, _ => exact begins1 c
    | [c, b], _, _, h => exact begins2 c b h
    | [c, b, d], _, _, h => exact begins3 c b d h
    | [c, b, d, f], _, _, h => exact begins4 c b d f h
end Go.Proofs.YtlcfpnegpihicaaGreatDoor

namespace Go.Proofs.YtlcfpnegpihicaaGreatDoor
open Go.RowKit

/-! ## The document's span of first bytes, walked -/
def SpanOf (x : List UInt8) (w : World) (e : Ending) (w' : World) : Prop :=
  e = .returned (.tuple (if spanOk x then #[.int .i64 (manyN (at0 x 0)), .int .i64 (lowN x (manyN (at0 x 0) - 1)), .int .i64 (topN x (manyN (at0 x 0) - 1)), .bool true] else #[.int .i64 0, .int .i64 0, .int .i64 0, .bool false])) ∧ Below w.heap.size w w'
theorem rd_at {w : World} {S : Nat → Prop} {ad : Addr} {x : List UInt8} (h : Rd w S (some ad) x) {j : Nat} (hj : j < x.length) : w.cell? (ad.add j) = some (.int .u8 (at0 x j : Nat)) := by
  obtain ⟨ad', e, _, hc⟩ := h (by omega)
  obtain rfl := Option.some.inj e
  refine hc j _ ?_
  unfold byts byt at0
  rw [List.getElem?_map, List.getElem?_eq_getElem hj, List.getD_eq_getElem?_getD, List.getElem?_eq_getElem hj]
  rfl
theorem rd_at0 {w : World} {S : Nat → Prop} {ad : Addr} {x : List UInt8} (h : Rd w S (some ad) x) (hj : 0 < x.length) : w.cell? ad = some (.int .u8 (at0 x 0 : Nat)) := by
  have := rd_at h hj
  rwa [show ad.add 0 = ad by cases ad; unfold Addr.add; split <;> simp_all] at this
set_option maxRecDepth 100000 in
set_option maxHeartbeats 2000000 in
theorem span_none (S : Nat → Prop) (ad : Addr) (x : List UInt8) (n c : Nat) (w : World) (h : Rd w S (some ad) x) (hn : n = x.length) (h1 : 1 ≤ x.length) (_hc : n ≤ c) (_hc' : c ≤ 9223372036854775807) (h0 : manyN (at0 x 0) = 0) :
    Calls Tryz.prog 94 #[.slice (some ad) n c] w (SpanOf x w) := by
  have a0 := rd_at0 h (by omega)
  have hsp : spanOk x = false := by unfold spanOk; rw [h0]; simp
  have hq := lt256 (x.getD 0 0)
  change at0 x 0 < 256 at hq
  have hr : (128 ≤ at0 x 0 ∧ at0 x 0 < 192) ∨ 248 ≤ at0 x 0 := by
    unfold manyN at h0
    (repeat' split at h0) <;> omega
  generalize hc0 : at0 x 0 = q at a0 hr hq
  have hi : (1 : Int) ≤ (n : Int) := by omega
  clear h hn h1 h0 hc0
  rcases hr with ⟨g1, g2⟩ | g1
  · have i1 : (128 : Int) ≤ (q : Int) := by omega
    have i2 : (q : Int) < 192 := by omega
    go_enter Tryz.func94, Tryz.ntmps94
    go_wp2
    refine bodyPost_ret (v := .tuple #[.int .i64 0, .int .i64 0, .int .i64 0, .bool false]) (by simp [results, Tryz.results94, go_sem]) rfl ⟨?_, Below.refl _ _⟩
    rw [hsp]; rfl
  · have i1 : (248 : Int) ≤ (q : Int) := by omega
    have i2 : (q : Int) < 256 := by omega
    go_enter Tryz.func94, Tryz.ntmps94
    go_wp2
    refine bodyPost_ret (v := .tuple #[.int .i64 0, .int .i64 0, .int .i64 0, .bool false]) (by simp [results, Tryz.results94, go_sem]) rfl ⟨?_, Below.refl _ _⟩
    rw [hsp]; rfl
theorem low_lt (x : List UInt8) : ∀ i, lowN x i < 256 * 64 ^ i ∧ topN x i < 256 * 64 ^ i
  | 0 => by
    have : firstN (at0 x 0) < 256 := by
      have := lt256 (x.getD 0 0)
      change at0 x 0 < 256 at this
      unfold firstN
      (repeat' split) <;> omega
    exact ⟨by show firstN (at0 x 0) < _; omega, by show firstN (at0 x 0) < _; omega⟩
  | i + 1 => by
    obtain ⟨h1, h2⟩ := low_lt x i
    rw [Nat.pow_succ]
    generalize 64 ^ i = p at h1 h2 ⊢
    constructor
    · show 64 * lowN x i + _ < _
      split <;> omega
    · show 64 * topN x i + _ < _
      split <;> omega
theorem low_lt3 (x : List UInt8) {i : Nat} (h : i ≤ 3) : lowN x i < 67108864 ∧ topN x i < 67108864 := by
  have := low_lt x i
  have : (64 : Nat) ^ i ≤ 64 ^ 3 := Nat.pow_le_pow_right (by omega) h
  omega
theorem span_stop {x : List UInt8} {m i : Nat} (hm : manyN (at0 x 0) = m) (hi : i + 2 ≤ m) (h : ¬ contN x (i + 1) = true) : spanOk x = false := by
  unfold spanOk
  rw [hm]
  have : ∀ k, contN x (i + 1 + k) = true → contN x (i + 1) = true := by
    intro k
    induction k with
    | zero => exact id
    | succ k ih => intro hh; refine ih ?_; rw [show i + 1 + (k + 1) = (i + 1 + k) + 1 from rfl, contN, Bool.and_eq_true] at hh; exact hh.1
  obtain ⟨k, hk⟩ : ∃ k, m - 1 = i + 1 + k := ⟨m - 1 - (i + 1), by omega⟩
  rw [hk]
  cases hc : contN x (i + 1 + k) with
  | false => simp
  | true => exact absurd (this k hc) h
set_option maxRecDepth 100000 in
set_option maxHeartbeats 4000000 in
theorem span_1 (ad : Addr) (x : List UInt8) (n c : Nat) (w : World) (h : Rd w (· < w.heap.size) (some ad) x) (hn : n = x.length) (h1 : 1 ≤ x.length) (_hc : n ≤ c) (_hc' : c ≤ 9223372036854775807) (h0 : manyN (at0 x 0) = 1) :
    Calls Tryz.prog 94 #[.slice (some ad) n c] w (SpanOf x w) := by
  have a0 := rd_at0 h (by omega)
  have hat := Lib.hid (fun (W : World) (hb : Below w.heap.size w W) (j : Nat) (hj : j < x.length) => rd_at (h.kept (Kept.below hb (fun b hb => hb))) hj)
  have hq := lt256 (x.getD 0 0)
  change at0 x 0 < 256 at hq
  have hr : at0 x 0 < 128 := by
    unfold manyN at h0
    (repeat' split at h0) <;> omega
  have hf : firstN (at0 x 0) = at0 x 0 := by
    unfold firstN
    (repeat' split) <;> omega
  have hlow := Lib.hid (show lowN x 0 = at0 x 0 from hf)
  have htop := Lib.hid (show topN x 0 = at0 x 0 from hf)
  have h0' := Lib.hid h0
  have hn' := Lib.hid hn
  generalize hc0 : at0 x 0 = q at a0 hr hq hlow htop
  have hi : (1 : Int) ≤ (n : Int) := by omega
  clear h hn h1 h0 hc0 hf
  have i2 : (q : Int) < 128 := by omega
  go_enter Tryz.func94, Tryz.ntmps94
  go_wp2
  go_loopw [8, 9, 10] (fun a b d W => ∃ i : Nat, a = .int .i64 (lowN x i : Int) ∧ b = .int .i64 (topN x i : Int) ∧ d = .int .i64 ((i + 1 : Nat) : Int) ∧ i + 1 ≤ 1 ∧ contN x i = true ∧ Below w.heap.size w W) (fun _ _ d _ => 5 - (intOf d).toNat)
  case atStart =>
    refine ⟨0, by rw [hlow.out]; skip, by rw [htop.out]; skip, rfl, by omega, rfl, Below.refl _ _⟩
  case round =>
    obtain ⟨i, rfl, rfl, rfl, hi4, hcn, hbw⟩ := hrel
    have hbw' := Lib.hid hbw
    have hb3 := low_lt3 x (i := i) (by omega)
    have hcn' := Lib.hid hcn
    clear hcn a0 hbw
    by_cases him : i + 1 < 1
    · omega
    · obtain rfl : i = 1 - 1 := by omega
      have h4 := h0'.out
      have hb3' := Lib.hid hb3
      clear hb3 him hi4
      generalize hl : ((lowN x (1 - 1) : Nat) : Int) = lo
      generalize ht : ((topN x (1 - 1) : Nat) : Int) = tq
      have hl' := Lib.hid hl
      have ht' := Lib.hid ht
      clear hl ht
      go_wp2
      refine bodyPost_ret (v := .tuple #[.int .i64 1, .int .i64 lo, .int .i64 tq, .bool true]) (by simp [results, Tryz.results94, go_sem]) rfl ⟨?_, hbw'.out⟩
      have hsp : spanOk x = true := by
        have := hcn'.out
        unfold spanOk
        rw [h0'.out]
        simpa using this
      rw [hsp, if_pos rfl, h0'.out, hl'.out, ht'.out]
      rfl
set_option maxRecDepth 100000 in
set_option maxHeartbeats 4000000 in
theorem span_2 (ad : Addr) (x : List UInt8) (n c : Nat) (w : World) (h : Rd w (· < w.heap.size) (some ad) x) (hn : n = x.length) (h1 : 1 ≤ x.length) (_hc : n ≤ c) (_hc' : c ≤ 9223372036854775807) (h0 : manyN (at0 x 0) = 2) :
    Calls Tryz.prog 94 #[.slice (some ad) n c] w (SpanOf x w) := by
  have a0 := rd_at0 h (by omega)
  have hat := Lib.hid (fun (W : World) (hb : Below w.heap.size w W) (j : Nat) (hj : j < x.length) => rd_at (h.kept (Kept.below hb (fun b hb => hb))) hj)
  have hq := lt256 (x.getD 0 0)
  change at0 x 0 < 256 at hq
  have hr : 192 ≤ at0 x 0 ∧ at0 x 0 < 224 := by
    unfold manyN at h0
    (repeat' split at h0) <;> omega
  have hf : firstN (at0 x 0) = at0 x 0 % 32 := by
    unfold firstN
    (repeat' split) <;> omega
  have hlow := Lib.hid (show lowN x 0 = at0 x 0 % 32 from hf)
  have htop := Lib.hid (show topN x 0 = at0 x 0 % 32 from hf)
  have h0' := Lib.hid h0
  have hn' := Lib.hid hn
  generalize hc0 : at0 x 0 = q at a0 hr hq hlow htop
  have hi : (1 : Int) ≤ (n : Int) := by omega
  clear h hn h1 h0 hc0 hf
  have i1 : (192 : Int) ≤ (q : Int) := by omega
  have i2 : (q : Int) < 224 := by omega
  go_enter Tryz.func94, Tryz.ntmps94
  go_wp2
  go_loopw [8, 9, 10] (fun a b d W => ∃ i : Nat, a = .int .i64 (lowN x i : Int) ∧ b = .int .i64 (topN x i : Int) ∧ d = .int .i64 ((i + 1 : Nat) : Int) ∧ i + 1 ≤ 2 ∧ contN x i = true ∧ Below w.heap.size w W) (fun _ _ d _ => 5 - (intOf d).toNat)
  case atStart =>
    refine ⟨0, by rw [hlow.out]; rfl, by rw [htop.out]; rfl, rfl, by omega, rfl, Below.refl _ _⟩
  case round =>
    obtain ⟨i, rfl, rfl, rfl, hi4, hcn, hbw⟩ := hrel
    have hbw' := Lib.hid hbw
    have hb3 := low_lt3 x (i := i) (by omega)
    have hcn' := Lib.hid hcn
    clear hcn a0 hbw
    by_cases him : i + 1 < 2
    · obtain ⟨j, hj⟩ : ∃ j, i + 1 = j := ⟨_, rfl⟩
      have hj' := Lib.hid hj
      have hlo : lowN x (i + 1) = 64 * lowN x i + (if i + 1 < x.length then at0 x (i + 1) % 64 else 0) := rfl
      have hto : topN x (i + 1) = 64 * topN x i + (if i + 1 < x.length then at0 x (i + 1) % 64 else 63) := rfl
      have hlo' := Lib.hid hlo
      have hto' := Lib.hid hto
      have j1 : (j : Int) < 2 := by omega
      have j2 : (1 : Int) ≤ (j : Int) := by omega
      rw [hj]
      have k1 : ((lowN x i : Nat) : Int) < 67108864 := by omega
      have k2 : (0 : Int) ≤ ((lowN x i : Nat) : Int) := by omega
      have k3 : ((topN x i : Nat) : Int) < 67108864 := by omega
      have k4 : (0 : Int) ≤ ((topN x i : Nat) : Int) := by omega
      clear hlo hto hb3 hj him
      generalize hl : ((lowN x i : Nat) : Int) = lo at k1 k2 ⊢
      generalize ht : ((topN x i : Nat) : Int) = tq at k3 k4 ⊢
      have hl' := Lib.hid hl
      have ht' := Lib.hid ht
      clear hl ht
      by_cases hix : x.length ≤ j
      · have g1 : (n : Int) ≤ (j : Int) := by have := hn'.out; omega
        have hix' := Lib.hid hix
        clear hix
        go_wp2
        refine ⟨⟨i + 1, ?_, ?_, ?_, by have := hj'.out; omega, ?_, hbw'.out⟩, by have := hj'.out; simp [intOf]; omega⟩
        · have := hlo'.out
          rw [if_neg (by have := hj'.out; have := hix'.out; omega)] at this
          exact congrArg (Value.int .i64) (by have := hl'.out; omega)
        · have := hto'.out
          rw [if_neg (by have := hj'.out; have := hix'.out; omega)] at this
          exact congrArg (Value.int .i64) (by have := ht'.out; omega)
        · exact congrArg (Value.int .i64) (by have := hj'.out; omega)
        · rw [contN, hcn'.out, decide_eq_true (show x.length ≤ i + 1 by have := hj'.out; have := hix'.out; omega)]; rfl
      · have hjn : j < x.length := by omega
        have a1 := hat.out _ hbw'.out j hjn
        have g1 : (j : Int) < (n : Int) := by have := hn'.out; omega
        have hjn' := Lib.hid hjn
        have hby := lt256 (x.getD j 0)
        change at0 x j < 256 at hby
        clear hix hjn
        generalize hy : at0 x j = y at a1 hby
        have hy' := Lib.hid hy
        clear hy
        by_cases hcc : 128 ≤ y ∧ y ≤ 191
        · have y1 : (128 : Int) ≤ (y : Int) := by omega
          have y2 : (y : Int) ≤ 191 := by omega
          go_wp2
          have w1 : IntKind.i64.wrap (64 * lo) = 64 * lo := IntWalk.i64_in _ (by omega)
          have w2 : IntKind.i64.wrap (64 * tq) = 64 * tq := IntWalk.i64_in _ (by omega)
          have w3 : (y : Int).tmod 64 = (y : Int) % 64 := IntWalk.rem_in _ _ (by omega)
          have w4 : IntKind.i64.wrap (64 * lo + (y : Int) % 64) = 64 * lo + (y : Int) % 64 := IntWalk.i64_in _ (by omega)
          have w5 : IntKind.i64.wrap (64 * tq + (y : Int) % 64) = 64 * tq + (y : Int) % 64 := IntWalk.i64_in _ (by omega)
          go_quiet (fail)
          clear w1 w2 w3 w4 w5
          go_wp2
          refine ⟨⟨i + 1, ?_, ?_, ?_, by have := hj'.out; omega, ?_, below_draws hbw'.out _⟩, by have := hj'.out; simp [intOf]; omega⟩
          · have := hlo'.out
            rw [if_pos (by have := hj'.out; have := hjn'.out; omega), hj'.out, hy'.out] at this
            rw [hj'.out]
            exact congrArg (Value.int .i64) (by have := hl'.out; omega)
          · have := hto'.out
            rw [if_pos (by have := hj'.out; have := hjn'.out; omega), hj'.out, hy'.out] at this
            rw [hj'.out]
            exact congrArg (Value.int .i64) (by have := ht'.out; omega)
          · exact congrArg (Value.int .i64) (by have := hj'.out; omega)
          · rw [contN, hcn'.out, hj'.out, hy'.out, decide_eq_true hcc.1, decide_eq_true hcc.2]; simp
        · have hno : ¬ contN x (i + 1) = true := by
            rw [contN, Bool.and_eq_true, Bool.or_eq_true, Bool.and_eq_true, decide_eq_true_iff, decide_eq_true_iff, decide_eq_true_iff, hj'.out, hy'.out]
            have := hjn'.out
            omega
          have hsp := span_stop h0'.out (by have := hj'.out; omega) hno
          have hyy : (y : Int) < 128 ∨ (128 : Int) ≤ (y : Int) ∧ (191 : Int) < (y : Int) := by omega
          have hsp' := Lib.hid hsp
          clear hcc hno hsp
          rcases hyy with y1 | ⟨y1, y2⟩
          all_goals
            go_wp2
            refine bodyPost_ret (v := .tuple #[.int .i64 0, .int .i64 0, .int .i64 0, .bool false]) (by simp [results, Tryz.results94, go_sem]) rfl ⟨?_, hbw'.out⟩
            rw [hsp'.out]; rfl
    · obtain rfl : i = 2 - 1 := by omega
      have h4 := h0'.out
      have hb3' := Lib.hid hb3
      clear hb3 him hi4
      generalize hl : ((lowN x (2 - 1) : Nat) : Int) = lo
      generalize ht : ((topN x (2 - 1) : Nat) : Int) = tq
      have hl' := Lib.hid hl
      have ht' := Lib.hid ht
      clear hl ht
      go_wp2
      refine bodyPost_ret (v := .tuple #[.int .i64 2, .int .i64 lo, .int .i64 tq, .bool true]) (by simp [results, Tryz.results94, go_sem]) rfl ⟨?_, hbw'.out⟩
      have hsp : spanOk x = true := by
        have := hcn'.out
        unfold spanOk
        rw [h0'.out]
        simpa using this
      rw [hsp, if_pos rfl, h0'.out, hl'.out, ht'.out]
      rfl
set_option maxRecDepth 100000 in
set_option maxHeartbeats 4000000 in
theorem span_3 (ad : Addr) (x : List UInt8) (n c : Nat) (w : World) (h : Rd w (· < w.heap.size) (some ad) x) (hn : n = x.length) (h1 : 1 ≤ x.length) (_hc : n ≤ c) (_hc' : c ≤ 9223372036854775807) (h0 : manyN (at0 x 0) = 3) :
    Calls Tryz.prog 94 #[.slice (some ad) n c] w (SpanOf x w) := by
  have a0 := rd_at0 h (by omega)
  have hat := Lib.hid (fun (W : World) (hb : Below w.heap.size w W) (j : Nat) (hj : j < x.length) => rd_at (h.kept (Kept.below hb (fun b hb => hb))) hj)
  have hq := lt256 (x.getD 0 0)
  change at0 x 0 < 256 at hq
  have hr : 224 ≤ at0 x 0 ∧ at0 x 0 < 240 := by
    unfold manyN at h0
    (repeat' split at h0) <;> omega
  have hf : firstN (at0 x 0) = at0 x 0 % 16 := by
    unfold firstN
    (repeat' split) <;> omega
  have hlow := Lib.hid (show lowN x 0 = at0 x 0 % 16 from hf)
  have htop := Lib.hid (show topN x 0 = at0 x 0 % 16 from hf)
  have h0' := Lib.hid h0
  have hn' := Lib.hid hn
  generalize hc0 : at0 x 0 = q at a0 hr hq hlow htop
  have hi : (1 : Int) ≤ (n : Int) := by omega
  clear h hn h1 h0 hc0 hf
  have i1 : (224 : Int) ≤ (q : Int) := by omega
  have i2 : (q : Int) < 240 := by omega
  go_enter Tryz.func94, Tryz.ntmps94
  go_wp2
  go_loopw [8, 9, 10] (fun a b d W => ∃ i : Nat, a = .int .i64 (lowN x i : Int) ∧ b = .int .i64 (topN x i : Int) ∧ d = .int .i64 ((i + 1 : Nat) : Int) ∧ i + 1 ≤ 3 ∧ contN x i = true ∧ Below w.heap.size w W) (fun _ _ d _ => 5 - (intOf d).toNat)
  case atStart =>
    refine ⟨0, by rw [hlow.out]; rfl, by rw [htop.out]; rfl, rfl, by omega, rfl, Below.refl _ _⟩
  case round =>
    obtain ⟨i, rfl, rfl, rfl, hi4, hcn, hbw⟩ := hrel
    have hbw' := Lib.hid hbw
    have hb3 := low_lt3 x (i := i) (by omega)
    have hcn' := Lib.hid hcn
    clear hcn a0 hbw
    by_cases him : i + 1 < 3
    · obtain ⟨j, hj⟩ : ∃ j, i + 1 = j := ⟨_, rfl⟩
      have hj' := Lib.hid hj
      have hlo : lowN x (i + 1) = 64 * lowN x i + (if i + 1 < x.length then at0 x (i + 1) % 64 else 0) := rfl
      have hto : topN x (i + 1) = 64 * topN x i + (if i + 1 < x.length then at0 x (i + 1) % 64 else 63) := rfl
      have hlo' := Lib.hid hlo
      have hto' := Lib.hid hto
      have j1 : (j : Int) < 3 := by omega
      have j2 : (1 : Int) ≤ (j : Int) := by omega
      rw [hj]
      have k1 : ((lowN x i : Nat) : Int) < 67108864 := by omega
      have k2 : (0 : Int) ≤ ((lowN x i : Nat) : Int) := by omega
      have k3 : ((topN x i : Nat) : Int) < 67108864 := by omega
      have k4 : (0 : Int) ≤ ((topN x i : Nat) : Int) := by omega
      clear hlo hto hb3 hj him
      generalize hl : ((lowN x i : Nat) : Int) = lo at k1 k2 ⊢
      generalize ht : ((topN x i : Nat) : Int) = tq at k3 k4 ⊢
      have hl' := Lib.hid hl
      have ht' := Lib.hid ht
      clear hl ht
      by_cases hix : x.length ≤ j
      · have g1 : (n : Int) ≤ (j : Int) := by have := hn'.out; omega
        have hix' := Lib.hid hix
        clear hix
        go_wp2
        refine ⟨⟨i + 1, ?_, ?_, ?_, by have := hj'.out; omega, ?_, hbw'.out⟩, by have := hj'.out; simp [intOf]; omega⟩
        · have := hlo'.out
          rw [if_neg (by have := hj'.out; have := hix'.out; omega)] at this
          exact congrArg (Value.int .i64) (by have := hl'.out; omega)
        · have := hto'.out
          rw [if_neg (by have := hj'.out; have := hix'.out; omega)] at this
          exact congrArg (Value.int .i64) (by have := ht'.out; omega)
        · exact congrArg (Value.int .i64) (by have := hj'.out; omega)
        · rw [contN, hcn'.out, decide_eq_true (show x.length ≤ i + 1 by have := hj'.out; have := hix'.out; omega)]; rfl
      · have hjn : j < x.length := by omega
        have a1 := hat.out _ hbw'.out j hjn
        have g1 : (j : Int) < (n : Int) := by have := hn'.out; omega
        have hjn' := Lib.hid hjn
        have hby := lt256 (x.getD j 0)
        change at0 x j < 256 at hby
        clear hix hjn
        generalize hy : at0 x j = y at a1 hby
        have hy' := Lib.hid hy
        clear hy
        by_cases hcc : 128 ≤ y ∧ y ≤ 191
        · have y1 : (128 : Int) ≤ (y : Int) := by omega
          have y2 : (y : Int) ≤ 191 := by omega
          go_wp2
          have w1 : IntKind.i64.wrap (64 * lo) = 64 * lo := IntWalk.i64_in _ (by omega)
          have w2 : IntKind.i64.wrap (64 * tq) = 64 * tq := IntWalk.i64_in _ (by omega)
          have w3 : (y : Int).tmod 64 = (y : Int) % 64 := IntWalk.rem_in _ _ (by omega)
          have w4 : IntKind.i64.wrap (64 * lo + (y : Int) % 64) = 64 * lo + (y : Int) % 64 := IntWalk.i64_in _ (by omega)
          have w5 : IntKind.i64.wrap (64 * tq + (y : Int) % 64) = 64 * tq + (y : Int) % 64 := IntWalk.i64_in _ (by omega)
          go_quiet (fail)
          clear w1 w2 w3 w4 w5
          go_wp2
          refine ⟨⟨i + 1, ?_, ?_, ?_, by have := hj'.out; omega, ?_, below_draws hbw'.out _⟩, by have := hj'.out; simp [intOf]; omega⟩
          · have := hlo'.out
            rw [if_pos (by have := hj'.out; have := hjn'.out; omega), hj'.out, hy'.out] at this
            rw [hj'.out]
            exact congrArg (Value.int .i64) (by have := hl'.out; omega)
          · have := hto'.out
            rw [if_pos (by have := hj'.out; have := hjn'.out; omega), hj'.out, hy'.out] at this
            rw [hj'.out]
            exact congrArg (Value.int .i64) (by have := ht'.out; omega)
          · exact congrArg (Value.int .i64) (by have := hj'.out; omega)
          · rw [contN, hcn'.out, hj'.out, hy'.out, decide_eq_true hcc.1, decide_eq_true hcc.2]; simp
        · have hno : ¬ contN x (i + 1) = true := by
            rw [contN, Bool.and_eq_true, Bool.or_eq_true, Bool.and_eq_true, decide_eq_true_iff, decide_eq_true_iff, decide_eq_true_iff, hj'.out, hy'.out]
            have := hjn'.out
            omega
          have hsp := span_stop h0'.out (by have := hj'.out; omega) hno
          have hyy : (y : Int) < 128 ∨ (128 : Int) ≤ (y : Int) ∧ (191 : Int) < (y : Int) := by omega
          have hsp' := Lib.hid hsp
          clear hcc hno hsp
          rcases hyy with y1 | ⟨y1, y2⟩
          all_goals
            go_wp2
            refine bodyPost_ret (v := .tuple #[.int .i64 0, .int .i64 0, .int .i64 0, .bool false]) (by simp [results, Tryz.results94, go_sem]) rfl ⟨?_, hbw'.out⟩
            rw [hsp'.out]; rfl
    · obtain rfl : i = 3 - 1 := by omega
      have h4 := h0'.out
      have hb3' := Lib.hid hb3
      clear hb3 him hi4
      generalize hl : ((lowN x (3 - 1) : Nat) : Int) = lo
      generalize ht : ((topN x (3 - 1) : Nat) : Int) = tq
      have hl' := Lib.hid hl
      have ht' := Lib.hid ht
      clear hl ht
      go_wp2
      refine bodyPost_ret (v := .tuple #[.int .i64 3, .int .i64 lo, .int .i64 tq, .bool true]) (by simp [results, Tryz.results94, go_sem]) rfl ⟨?_, hbw'.out⟩
      have hsp : spanOk x = true := by
        have := hcn'.out
        unfold spanOk
        rw [h0'.out]
        simpa using this
      rw [hsp, if_pos rfl, h0'.out, hl'.out, ht'.out]
      rfl
set_option maxRecDepth 100000 in
set_option maxHeartbeats 4000000 in
theorem span_4 (ad : Addr) (x : List UInt8) (n c : Nat) (w : World) (h : Rd w (· < w.heap.size) (some ad) x) (hn : n = x.length) (h1 : 1 ≤ x.length) (_hc : n ≤ c) (_hc' : c ≤ 9223372036854775807) (h0 : manyN (at0 x 0) = 4) :
    Calls Tryz.prog 94 #[.slice (some ad) n c] w (SpanOf x w) := by
  have a0 := rd_at0 h (by omega)
  have hat := Lib.hid (fun (W : World) (hb : Below w.heap.size w W) (j : Nat) (hj : j < x.length) => rd_at (h.kept (Kept.below hb (fun b hb => hb))) hj)
  have hq := lt256 (x.getD 0 0)
  change at0 x 0 < 256 at hq
  have hr : 240 ≤ at0 x 0 ∧ at0 x 0 < 248 := by
    unfold manyN at h0
    (repeat' split at h0) <;> omega
  have hf : firstN (at0 x 0) = at0 x 0 % 8 := by
    unfold firstN
    (repeat' split) <;> omega
  have hlow := Lib.hid (show lowN x 0 = at0 x 0 % 8 from hf)
  have htop := Lib.hid (show topN x 0 = at0 x 0 % 8 from hf)
  have h0' := Lib.hid h0
  have hn' := Lib.hid hn
  generalize hc0 : at0 x 0 = q at a0 hr hq hlow htop
  have hi : (1 : Int) ≤ (n : Int) := by omega
  clear h hn h1 h0 hc0 hf
  have i1 : (240 : Int) ≤ (q : Int) := by omega
  have i2 : (q : Int) < 248 := by omega
  go_enter Tryz.func94, Tryz.ntmps94
  go_wp2
  go_loopw [8, 9, 10] (fun a b d W => ∃ i : Nat, a = .int .i64 (lowN x i : Int) ∧ b = .int .i64 (topN x i : Int) ∧ d = .int .i64 ((i + 1 : Nat) : Int) ∧ i + 1 ≤ 4 ∧ contN x i = true ∧ Below w.heap.size w W) (fun _ _ d _ => 5 - (intOf d).toNat)
  case atStart =>
    refine ⟨0, by rw [hlow.out]; rfl, by rw [htop.out]; rfl, rfl, by omega, rfl, Below.refl _ _⟩
  case round =>
    obtain ⟨i, rfl, rfl, rfl, hi4, hcn, hbw⟩ := hrel
    have hbw' := Lib.hid hbw
    have hb3 := low_lt3 x (i := i) (by omega)
    have hcn' := Lib.hid hcn
    clear hcn a0 hbw
    by_cases him : i + 1 < 4
    · obtain ⟨j, hj⟩ : ∃ j, i + 1 = j := ⟨_, rfl⟩
      have hj' := Lib.hid hj
      have hlo : lowN x (i + 1) = 64 * lowN x i + (if i + 1 < x.length then at0 x (i + 1) % 64 else 0) := rfl
      have hto : topN x (i + 1) = 64 * topN x i + (if i + 1 < x.length then at0 x (i + 1) % 64 else 63) := rfl
      have hlo' := Lib.hid hlo
      have hto' := Lib.hid hto
      have j1 : (j : Int) < 4 := by omega
      have j2 : (1 : Int) ≤ (j : Int) := by omega
      rw [hj]
      have k1 : ((lowN x i : Nat) : Int) < 67108864 := by omega
      have k2 : (0 : Int) ≤ ((lowN x i : Nat) : Int) := by omega
      have k3 : ((topN x i : Nat) : Int) < 67108864 := by omega
      have k4 : (0 : Int) ≤ ((topN x i : Nat) : Int) := by omega
      clear hlo hto hb3 hj him
      generalize hl : ((lowN x i : Nat) : Int) = lo at k1 k2 ⊢
      generalize ht : ((topN x i : Nat) : Int) = tq at k3 k4 ⊢
      have hl' := Lib.hid hl
      have ht' := Lib.hid ht
      clear hl ht
      by_cases hix : x.length ≤ j
      · have g1 : (n : Int) ≤ (j : Int) := by have := hn'.out; omega
        have hix' := Lib.hid hix
        clear hix
        go_wp2
        refine ⟨⟨i + 1, ?_, ?_, ?_, by have := hj'.out; omega, ?_, hbw'.out⟩, by have := hj'.out; simp [intOf]; omega⟩
        · have := hlo'.out
          rw [if_neg (by have := hj'.out; have := hix'.out; omega)] at this
          exact congrArg (Value.int .i64) (by have := hl'.out; omega)
        · have := hto'.out
          rw [if_neg (by have := hj'.out; have := hix'.out; omega)] at this
          exact congrArg (Value.int .i64) (by have := ht'.out; omega)
        · exact congrArg (Value.int .i64) (by have := hj'.out; omega)
        · rw [contN, hcn'.out, decide_eq_true (show x.length ≤ i + 1 by have := hj'.out; have := hix'.out; omega)]; rfl
      · have hjn : j < x.length := by omega
        have a1 := hat.out _ hbw'.out j hjn
        have g1 : (j : Int) < (n : Int) := by have := hn'.out; omega
        have hjn' := Lib.hid hjn
        have hby := lt256 (x.getD j 0)
        change at0 x j < 256 at hby
        clear hix hjn
        generalize hy : at0 x j = y at a1 hby
        have hy' := Lib.hid hy
        clear hy
        by_cases hcc : 128 ≤ y ∧ y ≤ 191
        · have y1 : (128 : Int) ≤ (y : Int) := by omega
          have y2 : (y : Int) ≤ 191 := by omega
          go_wp2
          have w1 : IntKind.i64.wrap (64 * lo) = 64 * lo := IntWalk.i64_in _ (by omega)
          have w2 : IntKind.i64.wrap (64 * tq) = 64 * tq := IntWalk.i64_in _ (by omega)
          have w3 : (y : Int).tmod 64 = (y : Int) % 64 := IntWalk.rem_in _ _ (by omega)
          have w4 : IntKind.i64.wrap (64 * lo + (y : Int) % 64) = 64 * lo + (y : Int) % 64 := IntWalk.i64_in _ (by omega)
          have w5 : IntKind.i64.wrap (64 * tq + (y : Int) % 64) = 64 * tq + (y : Int) % 64 := IntWalk.i64_in _ (by omega)
          go_quiet (fail)
          clear w1 w2 w3 w4 w5
          go_wp2
          refine ⟨⟨i + 1, ?_, ?_, ?_, by have := hj'.out; omega, ?_, below_draws hbw'.out _⟩, by have := hj'.out; simp [intOf]; omega⟩
          · have := hlo'.out
            rw [if_pos (by have := hj'.out; have := hjn'.out; omega), hj'.out, hy'.out] at this
            rw [hj'.out]
            exact congrArg (Value.int .i64) (by have := hl'.out; omega)
          · have := hto'.out
            rw [if_pos (by have := hj'.out; have := hjn'.out; omega), hj'.out, hy'.out] at this
            rw [hj'.out]
            exact congrArg (Value.int .i64) (by have := ht'.out; omega)
          · exact congrArg (Value.int .i64) (by have := hj'.out; omega)
          · rw [contN, hcn'.out, hj'.out, hy'.out, decide_eq_true hcc.1, decide_eq_true hcc.2]; simp
        · have hno : ¬ contN x (i + 1) = true := by
            rw [contN, Bool.and_eq_true, Bool.or_eq_true, Bool.and_eq_true, decide_eq_true_iff, decide_eq_true_iff, decide_eq_true_iff, hj'.out, hy'.out]
            have := hjn'.out
            omega
          have hsp := span_stop h0'.out (by have := hj'.out; omega) hno
          have hyy : (y : Int) < 128 ∨ (128 : Int) ≤ (y : Int) ∧ (191 : Int) < (y : Int) := by omega
          have hsp' := Lib.hid hsp
          clear hcc hno hsp
          rcases hyy with y1 | ⟨y1, y2⟩
          all_goals
            go_wp2
            refine bodyPost_ret (v := .tuple #[.int .i64 0, .int .i64 0, .int .i64 0, .bool false]) (by simp [results, Tryz.results94, go_sem]) rfl ⟨?_, hbw'.out⟩
            rw [hsp'.out]; rfl
    · obtain rfl : i = 4 - 1 := by omega
      have h4 := h0'.out
      have hb3' := Lib.hid hb3
      clear hb3 him hi4
      generalize hl : ((lowN x (4 - 1) : Nat) : Int) = lo
      generalize ht : ((topN x (4 - 1) : Nat) : Int) = tq
      have hl' := Lib.hid hl
      have ht' := Lib.hid ht
      clear hl ht
      go_wp2
      refine bodyPost_ret (v := .tuple #[.int .i64 4, .int .i64 lo, .int .i64 tq, .bool true]) (by simp [results, Tryz.results94, go_sem]) rfl ⟨?_, hbw'.out⟩
      have hsp : spanOk x = true := by
        have := hcn'.out
        unfold spanOk
        rw [h0'.out]
        simpa using this
      rw [hsp, if_pos rfl, h0'.out, hl'.out, ht'.out]
      rfl
theorem span_any (ad : Addr) (x : List UInt8) (n c : Nat) (w : World) (h : Rd w (· < w.heap.size) (some ad) x) (hn : n = x.length) (h1 : 1 ≤ x.length) (hc : n ≤ c) (hc' : c ≤ 9223372036854775807) :
    Calls Tryz.prog 94 #[.slice (some ad) n c] w (SpanOf x w) := by
  rcases many_le (at0 x 0) with m | m | m | m | m
  · exact span_none _ ad x n c w h hn h1 hc hc' m
  · exact span_1 ad x n c w h hn h1 hc hc' m
  · exact span_2 ad x n c w h hn h1 hc hc' m
  · exact span_3 ad x n c w h hn h1 hc hc' m
  · exact span_4 ad x n c w h hn h1 hc hc' m
end Go.Proofs.YtlcfpnegpihicaaGreatDoor
