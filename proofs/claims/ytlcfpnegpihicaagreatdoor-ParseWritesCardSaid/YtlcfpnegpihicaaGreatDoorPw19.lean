import Derived.Test.YtlcfpnegpihicaaGreatDoorPw17
import Derived.Test.YtlcfpnegpihicaaGreatDoorPw18
import Derived.Test.YtlcfpnegpihicaaGreatDoorPw16
import Derived.DeepKeys
import Derived.BigQuiet
import Derived.Test.YtlcfpnegpihicaaGreatDoorPw13
import Derived.Deep.RegionHeld3
namespace Go.Proofs.YtlcfpnegpihicaaGreatDoor
open Go.RowKit Go.Shelf
attribute [local go_sem] Oper.semAt_some

/-! ## Reset -/
/-- A parser, wholly overwritten. -/
abbrev S7 (w3 : World) (p sq l m : Nat) : World := ((((((w3.setCell ⟨p, 0, none⟩ (.pointer (some ⟨sq, 0, none⟩))).setCell ⟨p, 1, none⟩ (.string ⟨#[]⟩)).setCell ⟨p, 2, none⟩ (.slice none 0 0)).setCell ⟨p, 3, none⟩ (.bool false)).setCell ⟨p, 4, none⟩ (.string ⟨#[]⟩)).setCell ⟨p, 5, none⟩ (.int .i64 (l : Int))).setCell ⟨p, 6, none⟩ (.int .i64 (m : Int))
theorem S7_has {w3 : World} {p sp sq l m l' m' : Nat} {dv : Value} {s : PrS} (h : Has w3 p 71 (prC sp dv s l' m')) : Has (S7 w3 p sq l m) p 71 (prC sq (.slice none 0 0) (prNew []) l m) := by
  have h := ((((((h.put 0 (.pointer (some ⟨sq, 0, none⟩))).put 1 (.string ⟨#[]⟩)).put 2 (.slice none 0 0)).put 3 (.bool false)).put 4 (.string ⟨#[]⟩)).put 5 (.int .i64 (l : Int))).put 6 (.int .i64 (m : Int))
  simpa [prC, prNew] using h
theorem S7_chg (w3 : World) (p sq l m : Nat) : Chg (fun k => k = p) w3 (S7 w3 p sq l m) :=
  (((((((Chg.of_below (S := fun k => k = p) (Below.refl _ w3)).set (k := p) rfl 0 _).set (k := p) rfl 1 _).set (k := p) rfl 2 _).set (k := p) rfl 3 _).set (k := p) rfl 4 _).set (k := p) rfl 5 _).set (k := p) rfl 6 _
def ResetP (nb p l m : Nat) (id : List UInt8) (w : World) (e : Ending) (w' : World) : Prop := e = .returned (.int .i64 0) ∧ ∃ sp dp, w.heap.size ≤ sp ∧ w.heap.size ≤ dp ∧ Has w' p 71 (prC sp (.slice none 0 0) (prNew id) l m) ∧ SpO w' nb sp dp l none init0 ∧ Chg (· = p) w w'
theorem resetPs_none (v : Option Addr) (s : ByteArray) (w : World) (h : NoP w v) : Calls Tryz.prog 15 #[.pointer v, .string s] w fun e w' => e = .returned (.int .i64 1) ∧ w = w' := by
  have hnone := Lib.hid (pNone_yes v w h)
  clear h
  go_enter Tryz.func15, Tryz.ntmps15
  go_wp2
  refine wp_scope_on 0 rfl ?_
  go_wp2_with ((go_at_call 29; (with_reducible refine Calls.mono hnone.out ?_); rintro e w1 ⟨rfl, rfl⟩))
  rw [jump_ret]
  go_ret
  exact ⟨rfl, rfl⟩
set_option maxRecDepth 100000 in
theorem resetPs_no (p sp l m : Nat) (dv : Value) (s : PrS) (id : List UInt8) (w : World) (h : Has w p 71 (prC sp dv s l m)) (h1 : 1 ≤ l) (hid : id.length ≤ 1000000) (hT : EvT w) (hr : rightE (id, [], []) = false) : Calls Tryz.prog 15 #[.pointer (some ⟨p, 0, none⟩), .string ⟨id.toArray⟩] w fun e w' => e = .returned (.int .i64 2) ∧ Below w.heap.size w w' := by
  have hnone := Lib.hid (pNone_no p l w (h.cell 5) h1)
  have hck0 := check_any (id, [], []) w ⟨by simp only; omega, by simp, by simp⟩ hT
  rw [show errE (id, [], []) = 2 by unfold errE; rw [if_neg (by rw [hr]; simp)]] at hck0
  have hck : Hid (Calls Tryz.prog 30 #[.agg #[.string ⟨id.toArray⟩, .string ⟨#[]⟩, .string ⟨#[]⟩]] w fun r w' => r = .returned (.int .i64 2) ∧ Below w.heap.size w w') := Lib.hid hck0
  clear hck0
  clear h hT hr
  go_enter Tryz.func15, Tryz.ntmps15
  go_wp2
  refine wp_scope_on 0 rfl ?_
  go_wp2_with (first
    | (go_at_call 29; (with_reducible refine Calls.mono hnone.out ?_); rintro e w1 ⟨rfl, rfl⟩)
    | (go_at_call 30; (with_reducible refine Calls.mono hck.out ?_); rintro e w2 ⟨rfl, hb2⟩; have hb2' := Lib.hid hb2; clear hb2))
  go_step3
  refine ⟨rfl, ?_⟩
  go_wp2
  rw [Exit.noGoto_ret]
  go_ret
  exact ⟨rfl, hb2'.out⟩
set_option maxRecDepth 100000 in
set_option maxHeartbeats 600000 in
theorem resetPs_yes (nb p sp l m : Nat) (dv : Value) (s : PrS) (id : List UInt8) (w : World) (h : Has w p 71 (prC sp dv s l m)) (h1 : 1 ≤ l) (h2 : l ≤ 65536) (hid : id.length ≤ 1000000) (hT : EvT w) (hr : rightE (id, [], []) = true) : Calls Tryz.prog 15 #[.pointer (some ⟨p, 0, none⟩), .string ⟨id.toArray⟩] w (ResetP nb p l m id w) := by
  have hpl := h.lt
  have hnone := Lib.hid (pNone_no p l w (h.cell 5) h1)
  have hck0 := check_any (id, [], []) w ⟨by simp only; omega, by simp, by simp⟩ hT
  rw [show errE (id, [], []) = 0 by unfold errE; rw [if_pos hr]] at hck0
  have hck : Hid (Calls Tryz.prog 30 #[.agg #[.string ⟨id.toArray⟩, .string ⟨#[]⟩, .string ⟨#[]⟩]] w fun r w' => r = .returned (.int .i64 0) ∧ Below w.heap.size w w') := Lib.hid hck0
  clear hck0
  have h' := Lib.hid h
  have hfr := Lib.hid (fun W => freshPs_any nb l m W h1 h2)
  have hcl := Lib.hid (fun W => cloneS_any ⟨id.toArray⟩ W (by show id.toArray.size ≤ _; simp; omega))
  clear h hT hr
  go_enter Tryz.func15, Tryz.ntmps15
  go_wp2
  refine wp_scope_on 0 rfl ?_
  go_wp2_with (first
    | (go_at_call 29; (with_reducible refine Calls.mono hnone.out ?_); rintro e w1 ⟨rfl, rfl⟩)
    | (go_at_call 30; (with_reducible refine Calls.mono hck.out ?_); rintro e w2 ⟨rfl, hb2⟩; have hp2 := h'.out.below hb2 hpl; have c5 := hp2.cell 5; have c6 := hp2.cell 6; unfold prC at c5 c6; have hb2' := Lib.hid hb2; have hp2' := Lib.hid hp2; clear hb2 hp2)
    | (go_at_call 27; (with_reducible refine Calls.mono (hfr.out _) ?_); rintro e w3 ⟨q, rfl, sq, dq, ha, hb, hc, hQ, hS, hb3⟩; have hp3 := hp2'.out.below hb3 hp2'.out.lt; have q0 := hQ.cell 0; have q1 := hQ.cell 1; have q2 := hQ.cell 2; have q3 := hQ.cell 3; have q4 := hQ.cell 4; have q5 := hQ.cell 5; have q6 := hQ.cell 6; have y0 := hp3.cell 0; have y1 := hp3.cell 1; have y2 := hp3.cell 2; have y3 := hp3.cell 3; have y4 := hp3.cell 4; have y5 := hp3.cell 5; have y6 := hp3.cell 6; have z0 := hp3.free 0; have z1 := hp3.free 1; have z2 := hp3.free 2; have z3 := hp3.free 3; have z4 := hp3.free 4; have z5 := hp3.free 5; have z6 := hp3.free 6; unfold prC prNew at q0 q1 q2 q3 q4 q5 q6; unfold prC at y0 y1 y2 y3 y4 y5 y6; have ha' := Lib.hid ha; have hb' := Lib.hid hb; have hc' := Lib.hid hc; have hQ' := Lib.hid hQ; have hS' := Lib.hid hS; have hb3' := Lib.hid hb3; have hp4 : Has (S7 w3 p sq l m) p 71 (prC sq (.slice none 0 0) (prNew []) l m) := S7_has hp3; have hC4 : Chg (fun k => k = p) w3 (S7 w3 p sq l m) := S7_chg w3 p sq l m; have hp4' := Lib.hid hp4; have hC4' := Lib.hid hC4; clear ha hb hc hQ hS hb3 hp3 hp4 hC4)
    | (go_at_call 31; (with_reducible refine Calls.mono (hcl.out _) ?_); rintro e w5 ⟨rfl, hb5⟩; have hb5 : Below (S7 w3 p sq l m).heap.size (S7 w3 p sq l m) w5 := hb5; have hp5 := hp4'.out.below hb5 hp4'.out.lt; have x4 := hp5.cell 4; have x5 := hp5.free 4; unfold prC prNew at x4; clear q0 q1 q2 q3 q4 q5 q6 y0 y1 y2 y3 y4 y5 y6 z0 z1 z2 z3 z4 z5 z6 c5 c6; have hb5' := Lib.hid hb5; have hp5' := Lib.hid hp5; clear hb5 hp5))
  rw [jump_ret]
  go_ret
  have ha := ha'.out
  have hb := hb'.out
  have hc := hc'.out
  have h2 := hb2'.out.size
  have hlt := hS'.out.lt
  have hC5 : Chg (fun k => k = p) w w5 := ((Chg.of_below (hb2'.out.trans (hb3'.out.mono h2))).trans hC4'.out).trans (Chg.of_below hb5'.out)
  have hS5 := (hS'.out.chg hC4'.out (by omega) (by omega) (fun k h => by cases h)).below hb5'.out
  refine ⟨rfl, sq, dq, by omega, by omega, ?_, hS5.chg (chg_set (S := fun k => k = p) (w := w5) (k := p) (i := 4) rfl (.string ⟨id.toArray⟩) _ rfl) (by omega) (by omega) (fun k h => by cases h), hC5.set rfl 4 _⟩
  exact hp5'.out.put 4 (.string ⟨id.toArray⟩)
end Go.Proofs.YtlcfpnegpihicaaGreatDoor

namespace Go.Proofs.YtlcfpnegpihicaaGreatDoor
open Go.RowKit Go.Shelf
attribute [local go_sem] Oper.semAt_some
attribute [local go_sem] wide_fn wide_depth wide_round

/-! ## Write -/
theorem wpListIn_append_line {F : Fence} {n : Nat} {w : World} {ops : Array Oper} {rest : List Oper} {o : Oper} {a : Act} {Q : Exit → Act → World → Prop} {n0 : Nat} {v : Value} {l : List (List UInt8 × Bool)} (hgd : o.guard = none) (s x : Operand) (ho : o.op = .call { callee := .builtin .append, args := #[s, x], argTypes := #[86, 86] }) (hsv : a.eval s = v) (hv : Lns w n0 v l)
    (k : Nat) (p : List UInt8) (q : Bool) (hxv : a.eval x = .slice (some ⟨k, 0, none⟩) 1 1) (hx : Has w k 92 #[.string ⟨p.toArray⟩, .bool q]) (hs : l.length + 1 ≤ 1099511627776) (hn : n0 ≤ w.heap.size)
    (h : ∀ v' w', Lns w' n0 v' (l ++ [(p, q)]) → w.grownBy w' v.ownBlock → wpListIn F n Tryz.prog ops Q rest (a.put o.dst v') w') : wpListIn F n Tryz.prog ops Q (o :: rest) a w := by
  obtain ⟨i, hi, hz, hz1, hz2⟩ := info_parts infoLine
  refine wpListIn_append_own w hgd s x 86 ho n0 92 i _ 2 24 Tryz.underlying86 hi hz hz1 hz2 rfl (by decide) v l.length (linesC l) hsv hv ⟨k, 0, none⟩ 1 1 (linesC [(p, q)]) hxv rfl (fun j u hu => ?_) (linesC_one _) (by simp only [maxLen]; omega) (by omega) hn (fun v' w' h1 h2 _ => h v' w' ?_ h2)
  · rw [add_zero_, Nat.zero_add, hx.cell]
    simpa [linesC] using hu
  · unfold Lns
    rw [List.length_append, List.length_singleton, linesC_append]
    exact h1
theorem Lns.turn {B n0 : Nat} {Ch : Nat → Prop} {W W' : World} {v : Value} {l : List (List UInt8 × Bool)} (h : Lns W n0 v l) (k : Turn B Ch W W') : Lns W' n0 v l := h.kept fun g hg => by
  obtain ⟨_, _, hh⟩ := h.own g hg
  exact (k.has hh (by decide)).trans hh.symm
theorem others_lines {w w' : World} {n0 : Nat} {v : Value} {l : List (List UInt8 × Bool)} (h : Lns w n0 v l) (hg : w.grownBy w' v.ownBlock) : KeepsOthers w w' := ⟨hg.size, fun k o hk hc => (hg.block k (Array.getElem?_eq_some_iff.1 hk).1 (fun e => by
  obtain ⟨_, cs, hh⟩ := h.own k e.symm
  have hh' : w.heap[k]? = some (.cells cs 92 (0, 0)) := hh
  rw [hh'] at hk
  rw [← Option.some.inj hk] at hc
  cases hc)).trans hk⟩
theorem numL_snd : ∀ (l : List (List UInt8 × Bool)) (n : Nat), (numL n l).map (·.2) = l
  | [], _ => rfl
  | x :: r, n => by simp only [numL, List.map_cons, numL_snd r (n + 1)]
theorem Chg.grownBy {S : Nat → Prop} {w a b : World} {row : Option Nat} (h : Chg S w a) (hg : a.grownBy b row) (hr : ∀ g, row = some g → w.heap.size ≤ g) : Chg S w b :=
  ⟨hg.os.trans h.os, hg.tape.trans h.tape, hg.output.trans h.output, Nat.le_trans h.size hg.size, fun k hk hn => (hg.block k (Nat.lt_of_lt_of_le hk h.size) (fun e => by have := hr k e.symm; omega)).trans (h.block k hk hn)⟩
theorem Has.putNon {W : World} {k l : Nat} {t : TypeId} {cs : Array Value} {o : Obj} (h : Has W k t cs) (o' : Obj) (hl : W.heap[l]? = some o) (hc : o.isCells = false) : Has (W.putObj l o') k t cs :=
  h.put_obj _ (fun e => by
    subst e
    have hh' : W.heap[k]? = some (.cells cs t (0, 0)) := h
    rw [hl] at hh'
    rw [Option.some.inj hh'] at hc
    cases hc)
theorem Lns.putNon {W : World} {n0 l : Nat} {v : Value} {xs : List (List UInt8 × Bool)} {o : Obj} (h : Lns W n0 v xs) (o' : Obj) (hl : W.heap[l]? = some o) (hc : o.isCells = false) : Lns (W.putObj l o') n0 v xs := h.kept fun g hg => by
  obtain ⟨_, _, hh⟩ := h.own g hg
  exact (hh.putNon o' hl hc).trans hh.symm
/-- What lies while the lines are told: the answer's cell and the lines in it. -/
def WlM (w : World) (T n1 : Nat) (S : Nat → Prop) (l : List (List UInt8 × Bool)) (W : World) : Prop :=
  (∃ v, Has W T 86 #[v] ∧ Lns W n1 v l) ∧ Chg S w W ∧ n1 ≤ W.heap.size
def WlI (w : World) (T n1 : Nat) (S : Nat → Prop) (pre : List (Nat × List UInt8 × Bool)) (W : World) : Prop := WlM w T n1 S (pre.map (·.2)) W
def WlX (_ : Code) (_ : List (Nat × List UInt8 × Bool)) (_ : World) : Prop := False
def WroteL (sp dp most nb : Nat) (ob : Option Nat) (s : CSt) (x : List UInt8) (w : World) (e : Ending) (w' : World) : Prop :=
  ∃ v ob', e = .returned (.tuple #[v, .int .i64 0]) ∧ Lns w' w.heap.size v (stepC most s x).1 ∧ SpO w' nb sp dp most ob' (stepC most s x).2 ∧ (∀ k, ob' = some k → ob = some k ∨ w.heap.size ≤ k) ∧ Chg (ChL sp dp ob) w w'
theorem stepC_count {most : Nat} (s : CSt) (x : List UInt8) : (stepC most s x).1.length ≤ 3 * (s.ws.length + x.length) := by
  have h1 := run4_len1 (s.ws ++ x)
  rw [List.length_append] at h1
  have h2 := runL_count (most := most) (textL s.any (run4 (s.ws ++ x)).1) s.l
  have h3 : (textL s.any (run4 (s.ws ++ x)).1).length ≤ (run4 (s.ws ++ x)).1.length := by
    unfold textL
    split
    · exact trimL_len _
    · exact Nat.le_refl _
  show (runL most s.l (textL s.any (run4 (s.ws ++ x)).1)).1.length ≤ _
  omega
set_option maxRecDepth 100000 in
set_option maxHeartbeats 4000000 in
theorem writeL_any (sp dp most nb : Nat) (ob : Option Nat) (s : CSt) (x : List UInt8) (A : Option Addr) (n c : Nat) (w : World) (hs : SpO w nb sp dp most ob s) (hok : s.ok most) (hm1 : 1 ≤ most) (hm : most ≤ 65536) (hn : n = x.length) (hc : n ≤ c) (hcm : c ≤ 9223372036854775807) (hl : n ≤ 4096)
    (hr : Rd w (fun k => k < w.heap.size ∧ ¬ ChL sp dp ob k) A x) (hT : TabU w) (hE : Ends w) (hTC : ¬ ChL sp dp ob 6) (hEC : ¬ ChL sp dp ob 2) (hEb : 2 < nb) (hnb : nb ≤ w.heap.size) :
    Calls Tryz.prog 62 #[.pointer (some ⟨sp, 0, none⟩), .slice A n c] w (WroteL sp dp most nb ob s x w) := by
  obtain ⟨l1, l2, l3, l4⟩ := hs.lt
  have hs4 : w.cell? ⟨sp, 4, none⟩ = some (.int .i64 (most : Int)) := by obtain ⟨vb, a1, _⟩ := hs; exact a1.cell 4
  have hws : s.ws.length ≤ 3 := by obtain ⟨vb, _, _, a3, _⟩ := hs; exact a3.len
  have hnone := Lib.hid (sNone_no sp most w hs4 hm1)
  have hs' := Lib.hid hs
  have hok' := Lib.hid hok
  have hn' := Lib.hid hn
  have hr' := Lib.hid hr
  have hT' := Lib.hid hT
  have hE' := Lib.hid hE
  have l4' := Lib.hid l4
  have hTC' := Lib.hid hTC
  have hEC' := Lib.hid hEC
  clear hs hok hn hr hT hE hs4 l4 hTC hEC
  refine (callsIn_wide (n := 3)).1 ?_
  refine callsIn_of_wp_marks Tryz.func62 rfl trivial ?_ rfl
  refine wpIn_wide.2 ?_
  simp only [Tryz.ntmps62, List.size_toArray, List.length_cons, List.length_nil, Nat.reduceAdd, Nat.reduceSub, Array.replicate_succ, Array.replicate_zero, List.push_toArray, List.append_toArray, List.nil_append, List.cons_append]
  go_wp2_with (go_at_call 72; (with_reducible refine Calls.mono hnone.out ?_); rintro e w' ⟨rfl, rfl⟩)
  have hb1 : Below w.heap.size w (w.alloc (.cells #[.slice none 0 0] 86)) := (Below.refl _ _).alloc (Nat.le_refl _) _
  have kT := Has.new w 86 #[.slice none 0 0]
  obtain ⟨w1, hw1⟩ : ∃ w1, w.alloc (.cells #[.slice none 0 0] 86) = w1 := ⟨_, rfl⟩
  have z1 : w1.heap.size = w.heap.size + 1 := by rw [← hw1]; simp
  rw [hw1] at hb1 kT ⊢
  clear hw1
  refine (cut_any A x n c w1 hn'.out hc hcm hl (fun h => by obtain ⟨ad, h1, _⟩ := hr'.out (by have := hn'.out; omega); exact ⟨ad, h1⟩)).mono ?_
  rintro e w2 ⟨PA, pc, rfl, hb2, hp2⟩
  have hb2' := Lib.hid hb2
  have hp2' := Lib.hid hp2
  have hb1' := Lib.hid hb1
  have kT' := Lib.hid kT
  obtain ⟨m, hme⟩ : ∃ m, (pcs x).length = m := ⟨_, rfl⟩
  rw [hme]
  have hme' := Lib.hid hme
  clear hb2 hp2 hb1 kT hme
  go_wp2_with fail
  refine (come_any _ _ _ _ _).mono ?_
  rintro e w3 ⟨rfl, rfl⟩
  have hb25 : Below w2.heap.size w2 ((w2.alloc (.cells #[.pointer (some ⟨sp, 0, none⟩)] 64)).alloc (.cells #[.slice PA m pc] 76)) := ((Below.refl _ _).alloc (Nat.le_refl _) _).alloc (by simp) _
  have hbS := (Has.new w2 64 #[.pointer (some ⟨sp, 0, none⟩)]).alloc (.cells #[.slice PA m pc] 76)
  have hbP := Has.new (w2.alloc (.cells #[.pointer (some ⟨sp, 0, none⟩)] 64)) 76 #[.slice PA m pc]
  simp only [World.size_alloc] at hbP
  have hb25' := Lib.hid hb25
  have hbS' := Lib.hid hbS
  have hbP' := Lib.hid hbP
  clear hb25 hbS hbP
  go_wp2
  obtain ⟨w5, hw5⟩ : ∃ w5, (w2.alloc (.cells #[.pointer (some ⟨sp, 0, none⟩)] 64)).alloc (.cells #[.slice PA m pc] 76) = w5 := ⟨_, rfl⟩
  have z5 : w5.heap.size = w2.heap.size + 1 + 1 := by rw [← hw5]; simp
  have hb25 := hb25'.out
  have hbS := hbS'.out
  have hbP := hbP'.out
  rw [hw5] at hb25 hbS hbP ⊢
  clear hw5 hb25' hbS' hbP'
  have z2 := hb2'.out.size
  have hB2 : Below w.heap.size w w2 := hb1'.out.trans (hb2'.out.mono (by omega))
  have hB5 : Below w.heap.size w w5 := hB2.trans (hb25.mono (by omega))
  have kT5 : Has w5 w.heap.size 86 #[.slice none 0 0] := (kT'.out.below hb2'.out kT'.out.lt).below hb25 (by omega)
  have hs5 := hs'.out.below hB5
  have hl4 := l4'.out
  have hcnt := stepC_count (most := most) s x
  have hseq := come1_stops 2 (by omega) (w2.heap.size + 1) w2.heap.size sp dp most w5.heap.size nb (· = w.heap.size) ob PA pc (pcs x) s w5 (Nat.le_refl _) (fun k hk => by omega) (by omega) (by omega) (fun k hk => by have := (hl4 k hk).1; omega) (by omega) (by omega) hm1 hm (by omega)
    (fun y hy => by
      have hn := hn'.out
      unfold pcs at hy
      split at hy
      · simp at hy
      · obtain rfl := List.mem_singleton.1 hy; omega) (by unfold pcs; split <;> simp) (by rw [runC_pcs hok'.out]; have := hn'.out; omega) hok'.out
    (hT'.out.below hB5) (by have := hT'.out.lt; omega) (by have := hT'.out.lt; omega) hTC'.out (hE'.out.below hB5) (by have := hE'.out.lt; omega) (by have := hE'.out.lt; omega) hEC'.out hEb
    (by rw [hme'.out]; exact hbP) hbS
    (fun k y hy => by
      obtain ⟨rfl, g, cs, c', hPA, hg, hh, rfl, hc0⟩ := hp2'.out k y hy
      exact ⟨g, cs, A, c', hPA, hh.below hb25 hh.lt, by omega, hc0, (hr'.out.kept (Kept.below hB5 (fun q hq => hq.1))).mono (fun q hq => ⟨by have := hq.1; omega, by have := hq.1; omega, hq.2⟩)⟩) hs5
  rw [runC_pcs hok'.out] at hseq
  have hseq' := Lib.hid hseq
  have kT5' := Lib.hid kT5
  have hB5' := Lib.hid hB5
  have hcnt' := Lib.hid (show (stepC most s x).1.length ≤ 100000 by have := hn'.out; omega)
  have hT0 : w.heap.size < w5.heap.size := by omega
  clear hseq kT5 hB5 hB2 hs5 hl4 hcnt hb25 hbS hbP
  refine (wpIn_wide (n := 3)).1 ?_
  refine wpIn_range_turnH 0 (gf := 100) (lb := #[.pointer (some ⟨w2.heap.size + 1, 0, none⟩), .pointer (some ⟨w2.heap.size, 0, none⟩)]) rfl (enters_of Tryz.func100 (by kernel_rfl) rfl)
    hseq'.out (fun h k => h.trans k) (fun W l o o' h0 h1 h2 _ => KeepL.putObj W l o o' h0 h1 h2) (Below.refl _ _) (fun _ => rfl)
    (WlI w w.heap.size w5.heap.size (ChL sp dp ob)) WlX (fun W => WlM w w.heap.size w5.heap.size (ChL sp dp ob) (stepC most s x).1 W ∧ SpW W nb sp dp most w5.heap.size ob (fun _ => False) (stepC most s x).2)
    (fun pre X Y hs ht => by
      obtain ⟨⟨v, h1, h2⟩, h3, h4⟩ := hs
      exact ⟨⟨v, ht.has h1 (by decide), h2.turn ht⟩, ht.chg h3 (by omega) (fun k _ hk => hk), Nat.le_trans h4 ht.size⟩)
    (fun c pre X Y hs _ => hs.elim) (fun W l o o' h h1 h2 => h.putObj o' h1 h2) ⟨⟨_, kT5'.out, lns_nil _ _⟩, .of_below hB5'.out, Nat.le_refl _⟩
    (fun xs W h1 h2 h3 => by
      subst h1
      have h2 : WlM w w.heap.size w5.heap.size (ChL sp dp ob) ((numL 0 (stepC most s x).1).map (·.2)) W := h2
      rw [numL_snd] at h2
      exact ⟨h2, h3⟩) (fun c pre W _ h => h.elim)
    (AxB ?F 92 (fun y : Nat × List UInt8 × Bool => #[.string ⟨y.2.1.toArray⟩, .bool y.2.2])) (fun y a' W l o o' h h1 h2 => by
      obtain ⟨k, h3, h4⟩ := h
      exact ⟨k, h3, h4.putNon o' h1 h2⟩) ?assign ?body (fun _ _ h => h) ?rest
  case assign =>
    intro l pre y W K hI hK
    have hK' := Lib.hid hK
    have hI' := Lib.hid hI
    clear hK hI
    dsimp only [encLn]
    gi_wp2
    obtain ⟨k, hk⟩ : ∃ k, W.heap.size = k := ⟨_, rfl⟩
    have hnew := Has.new W 92 #[.string ⟨y.2.1.toArray⟩, .bool y.2.2]
    rw [hk] at hnew ⊢
    have hb : Below W.heap.size W (W.alloc (.cells #[.string ⟨y.2.1.toArray⟩, .bool y.2.2] 92)) := (Below.refl _ _).alloc (Nat.le_refl _) _
    refine hK'.out _ _ ((KeepsOthers.alloc _ _).from _) (.below hb) ?_ ⟨k, ?_, hnew⟩
    · obtain ⟨⟨v, h1, h2⟩, h3, h4⟩ := hI'.out
      exact ⟨⟨v, h1.below hb h1.lt, h2.below hb⟩, h3.trans (.of_below hb), Nat.le_trans h4 hb.size⟩
    · rfl
  case body =>
    rintro l pre y a' W hl ⟨r, hr⟩ hI ⟨k, rfl, hk⟩ hlen
    obtain ⟨⟨v, mv, mL⟩, mC, mn⟩ := hI
    have c0 := mv.cell 0
    have d0 : W.cell? ⟨k, 0, none⟩ = some (.string ⟨y.2.1.toArray⟩) := hk.cell 0
    have d1 : W.cell? ⟨k, 1, none⟩ = some (.bool y.2.2) := hk.cell 1
    have hpl : (pre.map (·.2)).length + 1 ≤ 1099511627776 := by rw [List.length_map]; have := hcnt'.out; omega
    have hpm : (pre ++ [y]).map (·.2) = pre.map (·.2) ++ [(y.2.1, y.2.2)] := by simp
    obtain ⟨ls, hls⟩ : ∃ ls, pre.map (·.2) = ls := ⟨_, rfl⟩
    rw [hls] at mL hpl hpm
    have hpm' := Lib.hid hpm
    have hpl' := Lib.hid hpl
    have mC' := Lib.hid mC
    obtain ⟨yt, hyt⟩ : ∃ yt, y.2.1 = yt := ⟨_, rfl⟩
    obtain ⟨yb, hyb⟩ : ∃ yb, y.2.2 = yb := ⟨_, rfl⟩
    rw [hyt] at d0 hpm'
    rw [hyb] at d1 hpm'
    have hbl : Below W.heap.size W (W.alloc (.cells #[.string ⟨yt.toArray⟩, .bool yb] 92)) := (Below.refl _ _).alloc (Nat.le_refl _) _
    have mL2 := Lib.hid (mL.below hbl)
    have mv2 := Lib.hid (mv.below hbl mv.lt)
    have mC2 := Lib.hid (mC.trans (.of_below hbl))
    have hnw := Lib.hid (Has.new W 92 #[.string ⟨yt.toArray⟩, .bool yb])
    have hbl' := Lib.hid hbl
    clear mv mL mC hk hr hpl hpm hls hyt hyb hlen hbl
    gi_wp2_with (refine wpListIn_append_line rfl _ _ rfl rfl mL2.out _ yt yb rfl hnw.out hpl'.out (by rw [World.size_alloc]; omega) ?_; intro v6 w6 hL6 hg6; have kT6 : Has w6 w.heap.size _ _ := (hg6.block w.heap.size mv2.out.lt (fun e => by have := (mL2.out.own _ e.symm).1; omega)).trans mv2.out; have c6 := kT6.cell 0; have f6 := kT6.free 0; have kT6' := Lib.hid kT6; have hL6' := Lib.hid hL6; have hg6' := Lib.hid hg6; obtain ⟨A6, c7, rfl, _⟩ := hL6.shape; obtain ⟨m6, hm6⟩ : ∃ m, (ls ++ [(yt, yb)]).length = m := ⟨_, rfl⟩; rw [hm6] at hL6' ⊢; have hm6' := Lib.hid hm6; clear kT6 hL6 hg6 hm6)
    have hz6 := hg6'.out.size
    rw [World.size_alloc] at hz6
    refine ⟨(((KeepsOthers.alloc _ _).trans (others_lines mL2.out hg6'.out)).trans (KeepsOthers.setCell _ _ _)).from _, ((KeepL.below hbl'.out).grown hg6'.out (fun g e => mL2.out.own g e)).setCell (Wr := (· = w.heap.size)) (p := ⟨w.heap.size, 0, none⟩) rfl _, ⟨_, by simpa using kT6'.out.put 0 (.slice A6 m6 c7), ?_⟩, ?_, by simp; omega⟩
    · rw [hpm'.out]
      exact hL6'.out.kept (fun g e => Below.heap_setCell _ ⟨w.heap.size, 0, none⟩ _ g (fun (h : g = w.heap.size) => by have := (hL6'.out.own g e).1; omega))
    · exact (mC2.out.grownBy hg6'.out (fun g e => by have := (mL2.out.own g e).1; omega)).setNew (Nat.le_refl _) _ _
  case rest =>
    rintro D W hD ⟨⟨⟨v, mv, mL⟩, mC, mn⟩, hS⟩ hDn
    obtain ⟨A6, c6, rfl, _⟩ := mL.shape
    have c0 := mv.cell 0
    obtain ⟨m6, hm6⟩ : ∃ m, (stepC most s x).1.length = m := ⟨_, rfl⟩
    rw [hm6] at c0
    have mL' : Hid (Lns W w5.heap.size (.slice A6 m6 c6) (stepC most s x).1) := Lib.hid (by rw [← hm6]; exact mL)
    have mC' := Lib.hid mC
    have hS' := Lib.hid hS
    have hDn' := Lib.hid hDn
    clear mv mL mC hS hDn hm6
    go_wp2
    refine ⟨by simp, .inl ⟨_, _, rfl, run_takeDeferred hDn'.out, ?_⟩⟩
    refine ⟨_, results_tmp2 (t := 4) (u := 5) rfl _ _ _, ?_⟩
    obtain ⟨vb, q1, q2, q3, q4⟩ := hS'.out.putObj (.deferred none) hDn'.out rfl
    refine ⟨.slice A6 m6 c6, vb.ownBlock, rfl, ?_, ⟨vb, q1, q2, q3, rfl⟩, fun k hk => (q4 k hk).1.imp id (fun h => by omega), mC'.out.putObj D _ (by omega)⟩
    have h := mL'.out.putNon (.deferred none) hDn'.out rfl
    refine ⟨h.1, ?_⟩
    rcases h.2 with h | ⟨g, cap, cur, e, hb, r⟩
    · exact .inl h
    · exact .inr ⟨g, cap, cur, e, by omega, r⟩
end Go.Proofs.YtlcfpnegpihicaaGreatDoor

namespace Go.Proofs.YtlcfpnegpihicaaGreatDoor
open Go.RowKit Go.Shelf

/-! ## A splitter of a law's own; Of -/
/-- A splitter all of whose blocks lie from B on. -/
def SpN (W : World) (B sp dp most : Nat) (s : CSt) : Prop := ∃ ob, SpO W B sp dp most ob s ∧ B ≤ sp ∧ B ≤ dp
theorem SpN.below {W W' : World} {B sp dp most : Nat} {s : CSt} (h : SpN W B sp dp most s) (hb : Below W.heap.size W W') : SpN W' B sp dp most s := by
  obtain ⟨ob, h1, h2⟩ := h
  exact ⟨ob, h1.below hb, h2⟩
theorem Lns.chg {W W' : World} {n0 nb sp dp most : Nat} {ob : Option Nat} {v : Value} {l : List (List UInt8 × Bool)} {s : CSt} (h : Lns W n0 v l) (hs : SpO W nb sp dp most ob s) (hc : Chg (ChL sp dp ob) W W') : Lns W' n0 v l := h.kept fun g hg => by
  obtain ⟨_, _, hh⟩ := h.own g hg
  obtain ⟨vb, a1, a2, a3, a4⟩ := hs
  obtain ⟨_, hd⟩ := a3.typed
  refine hc.block g hh.lt (fun hk => ?_)
  rcases hk with hk | hk | hk
  · exact hh.apart a1 (by decide) hk
  · exact hh.apart hd (by decide) hk
  · obtain ⟨_, _, h8⟩ := a2.own g (a4.trans hk)
    exact hh.apart h8 (by decide) rfl
/-- Lines that are read somewhere. -/
def LnAt (W : World) (A : Option Addr) (xs : List (List UInt8 × Bool)) : Prop := ∀ i x, xs[i]? = some x → ∃ g, A = some ⟨g, 0, none⟩ ∧ (∃ cs, Has W g 92 cs) ∧ W.cell? ⟨g, i * 2, none⟩ = some (.string ⟨x.1.toArray⟩) ∧ W.cell? ⟨g, i * 2 + 1, none⟩ = some (.bool x.2)
theorem LnAt.below {W W' : World} {A : Option Addr} {l : List (List UInt8 × Bool)} (h : LnAt W A l) (hb : Below W.heap.size W W') : LnAt W' A l := fun i x hx => by
  obtain ⟨g, hA, ⟨cs, hg⟩, h1, h2⟩ := h i x hx
  exact ⟨g, hA, ⟨cs, hg.below hb hg.lt⟩, (hb.cell (p := ⟨g, i * 2, none⟩) hg.lt).trans h1, (hb.cell (p := ⟨g, i * 2 + 1, none⟩) hg.lt).trans h2⟩
theorem LnAt.chg {W W' : World} {nb sp dp most : Nat} {ob : Option Nat} {A : Option Addr} {l : List (List UInt8 × Bool)} {s : CSt} (h : LnAt W A l) (hs : SpO W nb sp dp most ob s) (hc : Chg (ChL sp dp ob) W W') : LnAt W' A l := fun i x hx => by
  obtain ⟨g, hA, ⟨cs, hh⟩, h1, h2⟩ := h i x hx
  obtain ⟨vb, a1, a2, a3, a4⟩ := hs
  obtain ⟨_, hd⟩ := a3.typed
  have hk : W'.heap[g]? = W.heap[g]? := hc.block g hh.lt (fun hk => by
    rcases hk with hk | hk | hk
    · exact hh.apart a1 (by decide) hk
    · exact hh.apart hd (by decide) hk
    · obtain ⟨_, _, h8⟩ := a2.own g (a4.trans hk)
      exact hh.apart h8 (by decide) rfl)
  exact ⟨g, hA, ⟨cs, hk.trans hh⟩, (World.cell?_of_block hk).trans h1, (World.cell?_of_block hk).trans h2⟩
theorem Lns.at {W : World} {n0 : Nat} {v : Value} {l : List (List UInt8 × Bool)} (h : Lns W n0 v l) : ∃ A c, v = .slice A l.length c ∧ LnAt W A l := by
  have ho := h.own
  obtain ⟨A, c, rfl, h2⟩ := h.shape
  refine ⟨A, c, rfl, fun i x hx => ?_⟩
  obtain ⟨g, rfl, _, hg, hc⟩ := h2 (by have := (List.getElem?_eq_some_iff.1 hx).1; omega)
  exact ⟨g, rfl, (ho g rfl).2, hc i x hx⟩
theorem Lns.mono {W : World} {n0 n1 : Nat} {v : Value} {l : List (List UInt8 × Bool)} (h : Lns W n0 v l) (hn : n1 ≤ n0) : Lns W n1 v l := by
  refine ⟨h.1, ?_⟩
  rcases h.2 with h | ⟨g, cap, cur, e, hb, r⟩
  · exact .inl h
  · exact .inr ⟨g, cap, cur, e, by omega, r⟩
/-! ## The document's Same; lines of texts -/
theorem take_eq_succ {α : Type} {xs ys : List α} {k : Nat} {x y : α} (hx : xs[k]? = some x) (hy : ys[k]? = some y) (h : xs.take k = ys.take k) (e : x = y) : xs.take (k + 1) = ys.take (k + 1) := by
  rw [List.take_add_one, List.take_add_one, hx, hy, h, e]
end Go.Proofs.YtlcfpnegpihicaaGreatDoor

namespace Go.Proofs.YtlcfpnegpihicaaGreatDoor
open Go.RowKit Go.Shelf

/-! ## Clone, Copy, Reset -/
def CloneOf (l : List UInt8) (w : World) (e : Ending) (w' : World) : Prop := ∃ v, e = .returned v ∧ Bs w' w.heap.size v l ∧ Below w.heap.size w w'
set_option maxRecDepth 100000 in
theorem cloneB_any (A : Option Addr) (l : List UInt8) (n c : Nat) (w : World) (hn : n = l.length) (hr : Rd w (· < w.heap.size) A l) (hl : n ≤ 1000000) : Calls Tryz.prog 24 #[.slice A n c] w (CloneOf l w) := by
  cases A with
  | none =>
    obtain rfl : l = [] := by
      rcases Nat.eq_zero_or_pos l.length with h | h
      · exact List.eq_nil_of_length_eq_zero h
      · obtain ⟨ad, he, _⟩ := hr h; cases he
    clear hr hn
    have hnil : ∀ (w : World), Sem.run Tryz.prog (binOp BinOp.eql 22 (Value.slice none n c) (Value.slice none 0 0)) w = .ok (.bool true) w := fun _ => by kernel_rfl
    go_enter Tryz.func24, Tryz.ntmps24
    go_wp2
    go_ret
    exact ⟨_, rfl, bs_nil _ _, Below.refl _ _⟩
  | some ad =>
    have hb1 : Below w.heap.size w (w.alloc (.cells #[] 5)) := (Below.refl _ _).alloc (Nat.le_refl _) _
    have hE := Lib.hid (empty_own w)
    have hr1 := Lib.hid (hr.kept (W' := w.alloc (.cells #[] 5)) (Kept.below hb1 (fun _ h => h)))
    have hb1' := Lib.hid hb1
    have hn' := Lib.hid hn
    have hlen : Hid (([] : List UInt8).length + l.length ≤ 140737488355328) := Lib.hid (by simp; omega)
    clear hr hb1 hn
    have hnil : ∀ (w : World), Sem.run Tryz.prog (binOp BinOp.eql 22 (Value.slice (some ad) n c) (Value.slice none 0 0)) w = .ok (.bool false) w := fun _ => by kernel_rfl
    go_enter Tryz.func24, Tryz.ntmps24
    go_wp2_with (at_builtin; refine wpList_append_rd rfl _ _ rfl rfl hE.out _ (some ad) l n c hn'.out rfl hr1.out hlen.out (by rw [World.size_alloc]; omega) ?_; intro v3 w3 hv3 hg3; have hv3' := Lib.hid hv3; have hg3' := Lib.hid hg3; clear hv3 hg3)
    go_ret
    refine ⟨_, rfl, by simpa using hv3'.out, hb1'.out.grown hg3'.out (by simp) (fun g e => (hE.out.own g e).1)⟩
set_option maxRecDepth 100000 in
theorem decApart_any (sp dp : Nat) (ws : List UInt8) (any long half : Bool) (vb mm : Value) (w : World) (hs : Has w sp 168 #[.pointer (some ⟨dp, 0, none⟩), .bool any, vb, .bool long, mm, .bool half]) (hd : Dec w dp ws) :
    Calls Tryz.prog 73 #[.pointer (some ⟨sp, 0, none⟩)] w fun e w' => ∃ d2, e = .returned (.agg #[.pointer (some ⟨d2, 0, none⟩), .bool any]) ∧ w.heap.size ≤ d2 ∧ Dec w' d2 ws ∧ Below w.heap.size w w' := by
  have hb1 : Below w.heap.size w (w.alloc (.cells #[.pointer none, .bool false] 163)) := (Below.refl _ _).alloc (Nat.le_refl _) _
  have kR := Has.new w 163 #[.pointer none, .bool false]
  obtain ⟨w1, hw1⟩ : ∃ w1, w.alloc (.cells #[.pointer none, .bool false] 163) = w1 := ⟨_, rfl⟩
  have z1 : w1.heap.size = w.heap.size + 1 := by rw [← hw1]; simp
  rw [hw1] at hb1 kR
  have hw1' := Lib.hid hw1
  have z1' := Lib.hid z1
  have hz1 : w.heap.size < w1.heap.size := by omega
  have hs1 := hs.below hb1 hs.lt
  have hd1 := hd.below hb1
  have hcp := copy_any dp ws w1.drew (hd1.kept rfl)
  have hall : Hid (∀ W : World, W.heap[sp]? = w1.heap[sp]? → W.cell? ⟨sp, 0, none⟩ = some (.pointer (some ⟨dp, 0, none⟩)) ∧ W.cell? ⟨sp, 1, none⟩ = some (.bool any)) := Lib.hid (fun W hb => by have hW : Has W sp _ _ := hb.trans hs1; exact ⟨hW.cell 0, hW.cell 1⟩)
  have hspl : sp < w.heap.size := hs.lt
  have hbd := Lib.hid (show w1.drew.heap[sp]? = w1.heap[sp]? from rfl)
  have hcp' := Lib.hid hcp
  have kR' := Lib.hid kR
  have hb1' := Lib.hid hb1
  clear hs hd hw1 z1 hb1 kR hs1 hd1 hcp
  go_enter Tryz.func73, Tryz.ntmps73
  go_upto_region 1 with (fail)
  rw [hw1'.out]
  go_region_held3 (fun W => W.cell? ⟨sp, 0, none⟩ = some (.pointer (some ⟨dp, 0, none⟩)) ∧ W.cell? ⟨sp, 1, none⟩ = some (.bool any))
    (first
    | with_reducible exact hall.out _ hbd.out
    | with_reducible exact hall.out _ hb2'.out
    | with_reducible exact hall.out _ (hb2s.out _ _)
    | fail)
    (first
    | (go_at_call 97; (with_reducible refine Calls.mono hcp'.out ?_); rintro e w2 ⟨rfl, hD2, hb2⟩; have hb2' := Lib.hid (show w2.heap[sp]? = w1.heap[sp]? from hb2.block sp (by show sp < w1.heap.size; omega)); have hb2s := Lib.hid (fun (x y : Value) => ((Below.heap_setCell (w2.setCell ⟨w.heap.size, 0, none⟩ x) ⟨w.heap.size, 1, none⟩ y sp (by show sp ≠ w.heap.size; omega)).trans (Below.heap_setCell w2 ⟨w.heap.size, 0, none⟩ x sp (by show sp ≠ w.heap.size; omega))).trans hb2'.out); have hbw2 := Lib.hid hb2; have kR2 := kR'.out.drew.below hb2 kR'.out.lt; have g0 := kR2.cell 0; have g1 := kR2.cell 1; have q0 := kR2.free 0; have q1 := kR2.free 1; have kR2' := Lib.hid kR2; have hD2' := Lib.hid hD2; clear kR2 hD2 hb2)
    | fail)
  all_goals
    go_wp2
    have k1 := (kR2'.out.put 0 (.pointer (some ⟨w1.heap.size, 0, none⟩))).put 1 (.bool any)
    have x0 := k1.cell 0
    have x1 := k1.cell 1
    refine bodyPost_ret (v := .agg #[.pointer (some ⟨w1.heap.size, 0, none⟩), .bool any]) (by simp [results, Tryz.results73, go_sem, x0, x1]) rfl ⟨w1.heap.size, rfl, by omega, ?_, ?_⟩
    · exact (hD2'.out.kept (Below.heap_setCell _ ⟨w.heap.size, 0, none⟩ _ _ (by show w1.heap.size ≠ w.heap.size; omega))).kept (Below.heap_setCell _ ⟨w.heap.size, 1, none⟩ _ _ (by show w1.heap.size ≠ w.heap.size; omega))
    · exact ((hb1'.out.trans ((show Below w1.heap.size w1 w2 from ⟨hbw2.out.os, hbw2.out.tape, hbw2.out.output, hbw2.out.size, hbw2.out.block⟩).mono (by omega))).setCell (p := ⟨w.heap.size, 0, none⟩) (Nat.le_refl _) _).setCell (p := ⟨w.heap.size, 1, none⟩) (Nat.le_refl _) _
set_option maxRecDepth 100000 in
theorem unApart_any (sp n0 : Nat) (u : List UInt8) (any long half : Bool) (pp vb mm : Value) (w : World) (hs : Has w sp 168 #[pp, .bool any, vb, .bool long, mm, .bool half]) (hv : Bs w n0 vb u) (hl : u.length ≤ 100000) :
    Calls Tryz.prog 74 #[.pointer (some ⟨sp, 2, none⟩)] w fun e w' => ∃ v2, e = .returned (.agg #[v2, .bool long]) ∧ Bs w' w.heap.size v2 u ∧ Below w.heap.size w w' := by
  obtain ⟨A, c, rfl, hr⟩ := hv.shape
  obtain ⟨m, hm⟩ : ∃ m, u.length = m := ⟨_, rfl⟩
  have hb1 : Below w.heap.size w (w.alloc (.cells #[.slice none 0 0, .bool false] 166)) := (Below.refl _ _).alloc (Nat.le_refl _) _
  have kR := Has.new w 166 #[.slice none 0 0, .bool false]
  obtain ⟨w1, hw1⟩ : ∃ w1, w.alloc (.cells #[.slice none 0 0, .bool false] 166) = w1 := ⟨_, rfl⟩
  have z1 : w1.heap.size = w.heap.size + 1 := by rw [← hw1]; simp
  rw [hw1] at hb1 kR
  rw [hm] at hs
  have hw1' := Lib.hid hw1
  have z1' := Lib.hid z1
  have hz1 : w.heap.size < w1.heap.size := by omega
  have hs1 := hs.below hb1 hs.lt
  have hr1 := hr.kept (Kept.below hb1 (fun b hb => hb.2))
  have hcl := cloneB_any A u m c w1.drew hm.symm ((hr1.kept (W' := w1.drew) (fun _ _ => rfl)).mono (fun b hb => by have := hb.2; show b < w1.heap.size; omega)) (by omega)
  have hall : Hid (∀ W : World, W.heap[sp]? = w1.heap[sp]? → W.cell? ⟨sp, 2, none⟩ = some (.slice A m c) ∧ W.cell? ⟨sp, 3, none⟩ = some (.bool long)) := Lib.hid (fun W hb => by have hW : Has W sp _ _ := hb.trans hs1; exact ⟨hW.cell 2, hW.cell 3⟩)
  have hspl : sp < w.heap.size := hs.lt
  have hbd := Lib.hid (show w1.drew.heap[sp]? = w1.heap[sp]? from rfl)
  have hcl' := Lib.hid hcl
  have kR' := Lib.hid kR
  have hb1' := Lib.hid hb1
  have hm' := Lib.hid hm
  clear hs hv hr hw1 z1 hb1 kR hs1 hr1 hcl hm
  go_enter Tryz.func74, Tryz.ntmps74
  go_upto_region 1 with (fail)
  rw [hw1'.out]
  go_region_held3 (fun W => W.cell? ⟨sp, 2, none⟩ = some (.slice A m c) ∧ W.cell? ⟨sp, 3, none⟩ = some (.bool long))
    (first
    | with_reducible exact hall.out _ hbd.out
    | with_reducible exact hall.out _ hb2'.out
    | with_reducible exact hall.out _ (hb2s.out _ _)
    | fail)
    (first
    | (go_at_call 24; (with_reducible refine Calls.mono hcl'.out ?_); rintro e w2 ⟨v2, rfl, hv2, hb2⟩; have hb2' := Lib.hid (show w2.heap[sp]? = w1.heap[sp]? from hb2.block sp (by show sp < w1.heap.size; omega)); have hb2s := Lib.hid (fun (x y : Value) => ((Below.heap_setCell (w2.setCell ⟨w.heap.size, 0, none⟩ x) ⟨w.heap.size, 1, none⟩ y sp (by show sp ≠ w.heap.size; omega)).trans (Below.heap_setCell w2 ⟨w.heap.size, 0, none⟩ x sp (by show sp ≠ w.heap.size; omega))).trans hb2'.out); have hbw2 := Lib.hid hb2; have kR2 := kR'.out.drew.below hb2 kR'.out.lt; have g0 := kR2.cell 0; have g1 := kR2.cell 1; have q0 := kR2.free 0; have q1 := kR2.free 1; have kR2' := Lib.hid kR2; obtain ⟨A2, c2, rfl, _⟩ := hv2.shape; rw [hm'.out] at hv2 ⊢; have hv2' := Lib.hid hv2; clear kR2 hv2 hb2)
    | fail)
  all_goals
    go_wp2
    have k1 := (kR2'.out.put 0 (.slice A2 m c2)).put 1 (.bool long)
    have x0 := k1.cell 0
    have x1 := k1.cell 1
    refine bodyPost_ret (v := .agg #[.slice A2 m c2, .bool long]) (by simp [results, Tryz.results74, go_sem, x0, x1]) rfl ⟨_, rfl, ?_, ?_⟩
    · have hv3 : Bs w2 w1.heap.size (.slice A2 m c2) u := hv2'.out
      exact (hv3.kept (fun g hg => (Below.heap_setCell _ ⟨w.heap.size, 1, none⟩ _ g (by show g ≠ w.heap.size; have := (hv3.own g hg).1; omega)).trans (Below.heap_setCell _ ⟨w.heap.size, 0, none⟩ _ g (by show g ≠ w.heap.size; have := (hv3.own g hg).1; omega)))).mono (by omega)
    · exact ((hb1'.out.trans ((show Below w1.heap.size w1 w2 from ⟨hbw2.out.os, hbw2.out.tape, hbw2.out.output, hbw2.out.size, hbw2.out.block⟩).mono (by omega))).setCell (p := ⟨w.heap.size, 0, none⟩) (Nat.le_refl _) _).setCell (p := ⟨w.heap.size, 1, none⟩) (Nat.le_refl _) _
def CopyOfL (nb most : Nat) (s : CSt) (w : World) (e : Ending) (w' : World) : Prop :=
  ∃ sp dp ob, e = .returned (.pointer (some ⟨sp, 0, none⟩)) ∧ w.heap.size ≤ sp ∧ w.heap.size ≤ dp ∧ SpO w' nb sp dp most ob s ∧ (∀ k, ob = some k → w.heap.size ≤ k) ∧ Below w.heap.size w w'
set_option maxRecDepth 100000 in
set_option maxHeartbeats 1000000 in
theorem copyL_any (nb sp dp most : Nat) (ob : Option Nat) (s : CSt) (w : World) (h : SpO w nb sp dp most ob s) (h1 : 1 ≤ most) (hm : most ≤ 65536) (hok : s.ok most) (hnb : nb ≤ w.heap.size) : Calls Tryz.prog 55 #[.pointer (some ⟨sp, 0, none⟩)] w (CopyOfL nb most s w) := by
  obtain ⟨vb, a1, a2, a3, a4⟩ := h
  have hnone := Lib.hid (sNone_no sp most w (a1.cell 4) h1)
  have hal := a1.lt
  have hall : Hid (∀ W : World, Below w.heap.size w W → W.cell? ⟨sp, 4, none⟩ = some (.int .i64 (most : Int)) ∧ W.cell? ⟨sp, 5, none⟩ = some (.bool s.l.half)) := Lib.hid (fun W hb => ⟨(a1.below hb hal).cell 4, (a1.below hb hal).cell 5⟩)
  have hda := Lib.hid (fun (W : World) (hb : Below w.heap.size w W) => decApart_any sp dp s.ws s.any s.l.long s.l.half vb (.int .i64 (most : Int)) W (a1.below hb hal) (a3.below hb))
  have hua := Lib.hid (fun (W : World) (hb : Below w.heap.size w W) => unApart_any sp nb s.l.bytes s.any s.l.long s.l.half (.pointer (some ⟨dp, 0, none⟩)) vb (.int .i64 (most : Int)) W (a1.below hb hal) (a2.below hb) (by have := hok.line.1; omega))
  have hbd := Lib.hid ((Below.refl w.heap.size w).drew)
  clear a1 a2 a3 a4
  go_enter Tryz.func55, Tryz.ntmps55
  go_upto_region 3 with (go_at_call 72; (with_reducible refine Calls.mono hnone.out ?_); rintro e w1 ⟨rfl, rfl⟩)
  go_region_held3 (fun W => W.cell? ⟨sp, 4, none⟩ = some (.int .i64 (most : Int)) ∧ W.cell? ⟨sp, 5, none⟩ = some (.bool s.l.half))
    (first
    | with_reducible exact hall.out _ hbd.out
    | with_reducible exact hall.out _ hbA.out
    | with_reducible exact hall.out _ hbB.out
    | with_reducible exact hall.out _ hbC.out
    | with_reducible exact hall.out _ hbDD.out
    | with_reducible exact hall.out _ (hbX.out _)
    | with_reducible exact hall.out _ (hbY.out _)
    | fail)
    (first
    | (go_at_call 73; (with_reducible refine Calls.mono (hda.out _ hbd.out) ?_); rintro e w2 ⟨d2, rfl, hd2, hD2, hb2⟩; have hbA := Lib.hid (hbd.out.trans hb2); have hD2' := Lib.hid hD2; have hd2' := Lib.hid hd2; have hb2' := Lib.hid hb2; clear hD2 hb2 hd2)
    | (go_at_call 74; (with_reducible refine Calls.mono (hua.out _ hbA.out) ?_); rintro e w3 ⟨v3, rfl, hV3, hb3⟩; have hbB := Lib.hid (hbA.out.trans (hb3.mono hbA.out.size)); have hbX := Lib.hid (fun o => hbB.out.alloc hbB.out.size o); have hV3' := Lib.hid hV3; have hb3' := Lib.hid hb3; clear hV3 hb3)
    | (go_at_call 74; (with_reducible refine Calls.mono (hua.out _ hbd.out) ?_); rintro e w2 ⟨v3, rfl, hV3, hb2⟩; have hbC := Lib.hid (hbd.out.trans hb2); have hV3' := Lib.hid hV3; have hb2' := Lib.hid hb2; clear hV3 hb2)
    | (go_at_call 73; (with_reducible refine Calls.mono (hda.out _ hbC.out) ?_); rintro e w3 ⟨d2, rfl, hd2, hD2, hb3⟩; have hbDD := Lib.hid (hbC.out.trans (hb3.mono hbC.out.size)); have hbY := Lib.hid (fun o => hbDD.out.alloc hbDD.out.size o); have hD2' := Lib.hid hD2; have hd2' := Lib.hid hd2; have hb3' := Lib.hid hb3; clear hD2 hb3 hd2)
    | fail)
  all_goals
    go_wp2
    go_ret
    have z2 := hbA.out.size
    have z3 := hbB.out.size
    have hD3 := hD2'.out.below hb3'.out
    have hal3 : Below w3.heap.size w3 (w3.alloc (.cells #[.pointer (some ⟨d2, 0, none⟩), .bool s.any, v3, .bool s.l.long, .int .i64 (most : Int), .bool s.l.half] 168)) := (Below.refl _ _).alloc (Nat.le_refl _) _
    have hzd : w.heap.size ≤ d2 := hd2'.out
    refine ⟨w3.heap.size, d2, v3.ownBlock, rfl, z3, hzd, ⟨v3, Has.new w3 _ _, (hV3'.out.below hal3).mono (by omega), hD3.below hal3, rfl⟩, fun k hk => ?_, hbB.out.trans (hal3.mono z3)⟩
    have := (hV3'.out.own k hk).1
    omega
/-! What is told of none. -/
end Go.Proofs.YtlcfpnegpihicaaGreatDoor

namespace Go.Proofs.YtlcfpnegpihicaaGreatDoor
open Go.RowKit Go.Shelf
attribute [local go_sem] Oper.semAt_some

/-! ## Copy -/
set_option maxRecDepth 100000 in
theorem splApart_any (nb p sp dp l : Nat) (ob : Option Nat) (c : CSt) (w : World) (hq : w.cell? ⟨p, 0, none⟩ = some (.pointer (some ⟨sp, 0, none⟩))) (hpl : p < w.heap.size) (hS : SpO w nb sp dp l ob c) (h1 : 1 ≤ l) (h2 : l ≤ 65536) (hok : c.ok l) (hnb : nb ≤ w.heap.size) :
    Calls Tryz.prog 34 #[.pointer (some ⟨p, 0, none⟩)] w fun e w' => ∃ sq dq oq, e = .returned (.agg #[.pointer (some ⟨sq, 0, none⟩)]) ∧ w.heap.size ≤ sq ∧ w.heap.size ≤ dq ∧ (∀ k, oq = some k → w.heap.size ≤ k) ∧ SpO w' nb sq dq l oq c ∧ Below w.heap.size w w' := by
  have hb1 : Below w.heap.size w (w.alloc (.cells #[.pointer none] 66)) := (Below.refl _ _).alloc (Nat.le_refl _) _
  have kS := Has.new w 66 #[.pointer none]
  have hq1 : (w.alloc (.cells #[.pointer none] 66)).cell? ⟨p, 0, none⟩ = some (.pointer (some ⟨sp, 0, none⟩)) := (World.cell?_of_block (hb1.block p hpl)).trans hq
  have hcp := Lib.hid (copyL_any nb sp dp l ob c _ (hS.below hb1) h1 h2 hok (Nat.le_trans hnb hb1.size))
  unfold CopyOfL at hcp
  have hb1' := Lib.hid hb1
  have kS' := Lib.hid kS
  clear hb1 kS hS hq
  go_enter Tryz.func34, Tryz.ntmps34
  go_wp2_with ((go_at_call 55; (with_reducible refine Calls.mono hcp.out ?_); rintro e w2 ⟨sq, dq, oq, rfl, ha, hb, hS, ho, hbb⟩; have kS2 := kS'.out.below hbb kS'.out.lt; have y0 := kS2.cell 0; have z0 := kS2.free 0; have kS2' := Lib.hid kS2; have ha' := Lib.hid ha; have hb' := Lib.hid hb; have hS' := Lib.hid hS; have ho' := Lib.hid ho; have hbb' := Lib.hid hbb; clear kS2 ha hb hS ho hbb))
  have kE := kS2'.out.put 0 (.pointer (some ⟨sq, 0, none⟩))
  have x0 := kE.cell 0
  have ha := ha'.out
  have hb := hb'.out
  have ho := ho'.out
  simp only [World.size_alloc] at ha hb ho
  refine bodyPost_ret (v := .agg #[.pointer (some ⟨sq, 0, none⟩)]) (by simp [results, Tryz.results34, go_sem, x0]) rfl ⟨sq, dq, oq, rfl, by omega, by omega, fun k h => by have := ho k h; omega, hS'.out.chg (S := fun k => k = w.heap.size) (chg_set (S := fun k => k = w.heap.size) (w := w2) (k := w.heap.size) (i := 0) rfl (.pointer (some ⟨sq, 0, none⟩)) _ rfl) (by omega) (by omega) (fun k h => by have := ho k h; omega), (hb1'.out.trans (hbb'.out.mono (by simp))).setCell (by simp) _⟩
set_option maxRecDepth 100000 in
set_option maxHeartbeats 1000000 in
theorem undApart_any (nb p sp l m : Nat) (dv : Value) (s : PrS) (w : World) (h : Has w p 71 (prC sp dv s l m)) (hd : Bs w nb dv s.data) (hdl : s.data.length ≤ 1000000) :
    Calls Tryz.prog 35 #[.pointer (some ⟨p, 1, none⟩)] w fun e w' => ∃ v, e = .returned (.agg #[.string ⟨s.kind.toArray⟩, v, .bool s.long]) ∧ Bs w' w.heap.size v s.data ∧ Below w.heap.size w w' := by
  have hb1 : Below w.heap.size w (w.alloc (.cells #[.string ⟨#[]⟩, .slice none 0 0, .bool false] 68)) := (Below.refl _ _).alloc (Nat.le_refl _) _
  have kU := Has.new w 68 #[.string ⟨#[]⟩, .slice none 0 0, .bool false]
  have hp1 := h.below hb1 h.lt
  have hd1 := hd.below hb1
  obtain ⟨A, c, hdv, hr⟩ := hd1.shape
  have c1 := hp1.cell 1
  have c2 := hp1.cell 2
  have c3 := hp1.cell 3
  unfold prC at c1 c2 c3
  simp only [hdv] at c1 c2 c3
  have hcl := Lib.hid (cloneB_any A s.data s.data.length c ((w.alloc (.cells #[.string ⟨#[]⟩, .slice none 0 0, .bool false] 68)).drew) rfl ((hr.mono (fun b h => h.2)).kept (fun _ _ => rfl)) hdl)
  unfold CloneOf at hcl
  have hp1' := Lib.hid hp1.drew
  have kU' := Lib.hid kU.drew
  have hb1' := Lib.hid hb1.drew
  have hdv' := Lib.hid hdv
  clear h hd hb1 kU hp1 hd1 hdv hr
  go_enter Tryz.func35, Tryz.ntmps35
  go_wp2_with (fail)
  go_region_held3 (fun W' => W'.cell? ⟨p, 1, none⟩ = some (.string ⟨s.kind.toArray⟩) ∧ W'.cell? ⟨p, 2, none⟩ = some (.slice A s.data.length c) ∧ W'.cell? ⟨p, 3, none⟩ = some (.bool s.long))
    (first
    | exact hset.out _ _ _
    | go_keep)
    (first
    | (go_at_call 24; (with_reducible refine Calls.mono hcl.out ?_); rintro e w3 ⟨v, rfl, hv, hbb⟩
       have hp3 := hp1'.out.below hbb hp1'.out.lt
       have g1 := hp3.cell 1
       have g2 := hp3.cell 2
       have g3 := hp3.cell 3
       unfold prC at g1 g2 g3
       simp only [hdv'.out] at g1 g2 g3
       have kU3 := kU'.out.below hbb kU'.out.lt
       have y0 := kU3.cell 0
       have y1 := kU3.cell 1
       have y2 := kU3.cell 2
       have z0 := kU3.free 0
       have z1 := kU3.free 1
       have z2 := kU3.free 2
       have hne : p ≠ w.heap.size := hp3.apart kU3 (by decide)
       have hset : Hid (∀ a b d, (((w3.setCell ⟨w.heap.size, 0, none⟩ a).setCell ⟨w.heap.size, 1, none⟩ b).setCell ⟨w.heap.size, 2, none⟩ d).cell? ⟨p, 1, none⟩ = some (.string ⟨s.kind.toArray⟩) ∧ (((w3.setCell ⟨w.heap.size, 0, none⟩ a).setCell ⟨w.heap.size, 1, none⟩ b).setCell ⟨w.heap.size, 2, none⟩ d).cell? ⟨p, 2, none⟩ = some (.slice A s.data.length c) ∧ (((w3.setCell ⟨w.heap.size, 0, none⟩ a).setCell ⟨w.heap.size, 1, none⟩ b).setCell ⟨w.heap.size, 2, none⟩ d).cell? ⟨p, 3, none⟩ = some (.bool s.long)) := Lib.hid (fun a b d => by
         have h := ((hp3.other hne (i := 0) a).other hne (i := 1) b).other hne (i := 2) d
         have e := h.cell 2
         unfold prC at e
         simp only [hdv'.out] at e
         exact ⟨h.cell 1, e, h.cell 3⟩)
       have kU3' := Lib.hid kU3
       have hv' := Lib.hid hv
       have hbb' := Lib.hid hbb
       obtain ⟨A3, c3', rfl, _⟩ := hv.shape
       clear hp3 kU3 hv hbb)
    | fail)
  go_wp2
  clear y0 y1 y2 z0 z1 z2 g1 g2 g3 c1 c2 c3
  have kE := ((kU3'.out.put 0 (.string ⟨s.kind.toArray⟩)).put 1 (.slice A3 s.data.length c3')).put 2 (.bool s.long)
  have x0 := kE.cell 0
  have x1 := kE.cell 1
  have x2 := kE.cell 2
  have hbw : Below w.heap.size w w3 := hb1'.out.trans (hbb'.out.mono hb1'.out.size)
  have hv3 := ((hv'.out.setCell (i := 0) kU3'.out (by decide) (.string ⟨s.kind.toArray⟩)).setCell (i := 1) (kU3'.out.put 0 (.string ⟨s.kind.toArray⟩)) (by decide) (.slice A3 s.data.length c3')).setCell (i := 2) ((kU3'.out.put 0 (.string ⟨s.kind.toArray⟩)).put 1 (.slice A3 s.data.length c3')) (by decide) (.bool s.long)
  refine bodyPost_ret (v := .agg #[.string ⟨s.kind.toArray⟩, .slice A3 s.data.length c3', .bool s.long]) (by simp [results, Tryz.results35, go_sem, x0, x1, x2]) rfl ⟨.slice A3 s.data.length c3', rfl, hv3.mono hb1'.out.size, ((hbw.setCell (Nat.le_refl _) _).setCell (Nat.le_refl _) _).setCell (Nat.le_refl _) _⟩
end Go.Proofs.YtlcfpnegpihicaaGreatDoor
