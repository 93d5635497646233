import Derived.Test.YthdmmlaahjgijaaDoorLnN
import Derived.Test.YthdmmlaahjgijaaDoorLnJ
namespace Go.Proofs.YthdmmlaahjgijaaDoor
open Go.RowKit Go.Shelf
attribute [local go_sem] Oper.semAt_some
attribute [local go_sem] wide_fn wide_depth wide_round

/-! ## Write -/
theorem wpListIn_append_line {F : Fence} {n : Nat} {w : World} {ops : Array Oper} {rest : List Oper} {o : Oper} {a : Act} {Q : Exit → Act → World → Prop} {n0 : Nat} {v : Value} {l : List (List UInt8 × Bool)} (hgd : o.guard = none) (s x : Operand) (ho : o.op = .call { callee := .builtin .append, args := #[s, x], argTypes := #[60, 60] }) (hsv : a.eval s = v) (hv : Lns w n0 v l)
    (k : Nat) (p : List UInt8) (q : Bool) (hxv : a.eval x = .slice (some ⟨k, 0, none⟩) 1 1) (hx : Has w k 70 #[.string ⟨p.toArray⟩, .bool q]) (hs : l.length + 1 ≤ 1099511627776) (hn : n0 ≤ w.heap.size)
    (h : ∀ v' w', Lns w' n0 v' (l ++ [(p, q)]) → w.grownBy w' v.ownBlock → wpListIn F n Tryd.prog ops Q rest (a.put o.dst v') w') : wpListIn F n Tryd.prog ops Q (o :: rest) a w := by
  obtain ⟨i, hi, hz, hz1, hz2⟩ := info_parts infoLine
  refine wpListIn_append_own w hgd s x 60 ho n0 70 i _ 2 24 Tryd.underlying60 hi hz hz1 hz2 rfl (by decide) v l.length (linesC l) hsv hv ⟨k, 0, none⟩ 1 1 (linesC [(p, q)]) hxv rfl (fun j u hu => ?_) (linesC_one _) (by simp only [maxLen]; omega) (by omega) hn (fun v' w' h1 h2 _ => h v' w' ?_ h2)
  · rw [add_zero_, Nat.zero_add, hx.cell]
    simpa [linesC] using hu
  · unfold Lns
    rw [List.length_append, List.length_singleton, linesC_append]
    exact h1
theorem Lns.turn {B n0 : Nat} {Ch : Nat → Prop} {W W' : World} {v : Value} {l : List (List UInt8 × Bool)} (h : Lns W n0 v l) (k : Turn B Ch W W') : Lns W' n0 v l := h.kept fun g hg => by
  obtain ⟨_, _, hh⟩ := h.own g hg
  exact (k.has hh (by decide)).trans hh.symm
theorem others_lines {w w' : World} {n0 : Nat} {v : Value} {l : List (List UInt8 × Bool)} (h : Lns w n0 v l) (hg : w.grownBy w' v.ownBlock) : KeepsOthers w w' := ⟨hg.size, fun k o hk hc => (hg.block k (Array.getElem?_eq_some_iff.1 hk).1 (fun e => by
  obtain ⟨_, cs, hh⟩ := h.own k e.symm
  have hh' : w.heap[k]? = some (.cells cs 70 (0, 0)) := hh
  rw [hh'] at hk
  rw [← Option.some.inj hk] at hc
  cases hc)).trans hk⟩
theorem numL_snd : ∀ (l : List (List UInt8 × Bool)) (n : Nat), (numL n l).map (·.2) = l
  | [], _ => rfl
  | x :: r, n => by simp only [numL, List.map_cons, numL_snd r (n + 1)]
theorem Chg.grownBy {S : Nat → Prop} {w a b : World} {row : Option Nat} (h : Chg S w a) (hg : a.grownBy b row) (hr : ∀ g, row = some g → w.heap.size ≤ g) : Chg S w b :=
  ⟨hg.os.trans h.os, hg.tape.trans h.tape, hg.output.trans h.output, Nat.le_trans h.size hg.size, fun k hk hn => (hg.block k (Nat.lt_of_lt_of_le hk h.size) (fun e => by have := hr k e.symm; omega)).trans (h.block k hk hn)⟩
theorem Has.putNon {W : World} {k l : Nat} {t : TypeId} {cs : Array Value} {o : Obj} (h : Has W k t cs) (o' : Obj) (hl : W.heap[l]? = some o) (hc : o.isCells = false) : Has (W.putObj l o') k t cs :=
  h.put_obj _ (fun e => by
    subst e
    have hh' : W.heap[k]? = some (.cells cs t (0, 0)) := h
    rw [hl] at hh'
    rw [Option.some.inj hh'] at hc
    cases hc)
theorem Lns.putNon {W : World} {n0 l : Nat} {v : Value} {xs : List (List UInt8 × Bool)} {o : Obj} (h : Lns W n0 v xs) (o' : Obj) (hl : W.heap[l]? = some o) (hc : o.isCells = false) : Lns (W.putObj l o') n0 v xs := h.kept fun g hg => by
  obtain ⟨_, _, hh⟩ := h.own g hg
  exact (hh.putNon o' hl hc).trans hh.symm
/-- What lies while the lines are told: the answer's cell and the lines in it. -/
def WlM (w : World) (T n1 : Nat) (S : Nat → Prop) (l : List (List UInt8 × Bool)) (W : World) : Prop :=
  (∃ v, Has W T 60 #[v] ∧ Lns W n1 v l) ∧ Chg S w W ∧ n1 ≤ W.heap.size
def WlI (w : World) (T n1 : Nat) (S : Nat → Prop) (pre : List (Nat × List UInt8 × Bool)) (W : World) : Prop := WlM w T n1 S (pre.map (·.2)) W
def WlX (_ : Code) (_ : List (Nat × List UInt8 × Bool)) (_ : World) : Prop := False
def WroteL (sp dp most nb : Nat) (ob : Option Nat) (s : CSt) (x : List UInt8) (w : World) (e : Ending) (w' : World) : Prop :=
  ∃ v ob', e = .returned (.tuple #[v, .int .i64 0]) ∧ Lns w' w.heap.size v (stepC most s x).1 ∧ SpO w' nb sp dp most ob' (stepC most s x).2 ∧ (∀ k, ob' = some k → ob = some k ∨ w.heap.size ≤ k) ∧ Chg (ChL sp dp ob) w w'
theorem stepC_count {most : Nat} (s : CSt) (x : List UInt8) : (stepC most s x).1.length ≤ 3 * (s.ws.length + x.length) := by
  have h1 := run4_len (s.ws ++ x)
  rw [List.length_append] at h1
  have h2 := runL_count (most := most) (textL s.any (run4 (s.ws ++ x)).1) s.l
  have h3 : (textL s.any (run4 (s.ws ++ x)).1).length ≤ (run4 (s.ws ++ x)).1.length := by
    unfold textL
    split
    · exact trimL_len _
    · exact Nat.le_refl _
  show (runL most s.l (textL s.any (run4 (s.ws ++ x)).1)).1.length ≤ _
  omega
set_option maxRecDepth 100000 in
set_option maxHeartbeats 4000000 in
theorem writeL_any (sp dp most nb : Nat) (ob : Option Nat) (s : CSt) (x : List UInt8) (A : Option Addr) (n c : Nat) (w : World) (hs : SpO w nb sp dp most ob s) (hok : s.ok most) (hm1 : 1 ≤ most) (hm : most ≤ 65536) (hn : n = x.length) (hc : n ≤ c) (hcm : c ≤ 9223372036854775807) (hl : n ≤ 4096)
    (hr : Rd w (fun k => k < w.heap.size ∧ ¬ ChL sp dp ob k) A x) (hT : Tab w) (hE : Ends w) (hTC : ¬ ChL sp dp ob 0) (hEC : ¬ ChL sp dp ob 1) (hEb : 1 < nb) (hnb : nb ≤ w.heap.size) :
    Calls Tryd.prog 39 #[.pointer (some ⟨sp, 0, none⟩), .slice A n c] w (WroteL sp dp most nb ob s x w) := by
  obtain ⟨l1, l2, l3, l4⟩ := hs.lt
  have hs4 : w.cell? ⟨sp, 4, none⟩ = some (.int .i64 (most : Int)) := by obtain ⟨vb, a1, _⟩ := hs; exact a1.cell 4
  have hws : s.ws.length ≤ 3 := by obtain ⟨vb, _, _, a3, _⟩ := hs; exact a3.len
  have hnone := Lib.hid (sNone_no sp most w hs4 hm1)
  have hs' := Lib.hid hs
  have hok' := Lib.hid hok
  have hn' := Lib.hid hn
  have hr' := Lib.hid hr
  have hT' := Lib.hid hT
  have hE' := Lib.hid hE
  have l4' := Lib.hid l4
  have hTC' := Lib.hid hTC
  have hEC' := Lib.hid hEC
  clear hs hok hn hr hT hE hs4 l4 hTC hEC
  refine (callsIn_wide (n := 3)).1 ?_
  refine callsIn_of_wp_marks Tryd.func39 rfl trivial ?_ rfl
  refine wpIn_wide.2 ?_
  simp only [Tryd.ntmps39, List.size_toArray, List.length_cons, List.length_nil, Nat.reduceAdd, Nat.reduceSub, Array.replicate_succ, Array.replicate_zero, List.push_toArray, List.append_toArray, List.nil_append, List.cons_append]
  go_wp2_with (go_at_call 60; (with_reducible refine Calls.mono hnone.out ?_); rintro e w' ⟨rfl, rfl⟩)
  have hb1 : Below w.heap.size w (w.alloc (.cells #[.slice none 0 0] 60)) := (Below.refl _ _).alloc (Nat.le_refl _) _
  have kT := Has.new w 60 #[.slice none 0 0]
  obtain ⟨w1, hw1⟩ : ∃ w1, w.alloc (.cells #[.slice none 0 0] 60) = w1 := ⟨_, rfl⟩
  have z1 : w1.heap.size = w.heap.size + 1 := by rw [← hw1]; simp
  rw [hw1] at hb1 kT ⊢
  clear hw1
  refine (cut_any A x n c w1 hn'.out hc hcm hl (fun h => by obtain ⟨ad, h1, _⟩ := hr'.out (by have := hn'.out; omega); exact ⟨ad, h1⟩)).mono ?_
  rintro e w2 ⟨PA, pc, rfl, hb2, hp2⟩
  have hb2' := Lib.hid hb2
  have hp2' := Lib.hid hp2
  have hb1' := Lib.hid hb1
  have kT' := Lib.hid kT
  obtain ⟨m, hme⟩ : ∃ m, (pcs x).length = m := ⟨_, rfl⟩
  rw [hme]
  have hme' := Lib.hid hme
  clear hb2 hp2 hb1 kT hme
  go_wp2_with fail
  refine (come_any _ _ _ _ _).mono ?_
  rintro e w3 ⟨rfl, rfl⟩
  have hb25 : Below w2.heap.size w2 ((w2.alloc (.cells #[.pointer (some ⟨sp, 0, none⟩)] 72)).alloc (.cells #[.slice PA m pc] 39)) := ((Below.refl _ _).alloc (Nat.le_refl _) _).alloc (by simp) _
  have hbS := (Has.new w2 72 #[.pointer (some ⟨sp, 0, none⟩)]).alloc (.cells #[.slice PA m pc] 39)
  have hbP := Has.new (w2.alloc (.cells #[.pointer (some ⟨sp, 0, none⟩)] 72)) 39 #[.slice PA m pc]
  simp only [World.size_alloc] at hbP
  have hb25' := Lib.hid hb25
  have hbS' := Lib.hid hbS
  have hbP' := Lib.hid hbP
  clear hb25 hbS hbP
  go_wp2
  obtain ⟨w5, hw5⟩ : ∃ w5, (w2.alloc (.cells #[.pointer (some ⟨sp, 0, none⟩)] 72)).alloc (.cells #[.slice PA m pc] 39) = w5 := ⟨_, rfl⟩
  have z5 : w5.heap.size = w2.heap.size + 1 + 1 := by rw [← hw5]; simp
  have hb25 := hb25'.out
  have hbS := hbS'.out
  have hbP := hbP'.out
  rw [hw5] at hb25 hbS hbP ⊢
  clear hw5 hb25' hbS' hbP'
  have z2 := hb2'.out.size
  have hB2 : Below w.heap.size w w2 := hb1'.out.trans (hb2'.out.mono (by omega))
  have hB5 : Below w.heap.size w w5 := hB2.trans (hb25.mono (by omega))
  have kT5 : Has w5 w.heap.size 60 #[.slice none 0 0] := (kT'.out.below hb2'.out kT'.out.lt).below hb25 (by omega)
  have hs5 := hs'.out.below hB5
  have hl4 := l4'.out
  have hcnt := stepC_count (most := most) s x
  have hseq := come1_stops 2 (by omega) (w2.heap.size + 1) w2.heap.size sp dp most w5.heap.size nb (· = w.heap.size) ob PA pc (pcs x) s w5 (Nat.le_refl _) (fun k hk => by omega) (by omega) (by omega) (fun k hk => by have := (hl4 k hk).1; omega) (by omega) (by omega) hm1 hm (by omega)
    (fun y hy => by
      have hn := hn'.out
      unfold pcs at hy
      split at hy
      · simp at hy
      · obtain rfl := List.mem_singleton.1 hy; omega) (by unfold pcs; split <;> simp) (by rw [runC_pcs hok'.out]; have := hn'.out; omega) hok'.out
    (hT'.out.below hB5) (by have := hT'.out.lt; omega) (by have := hT'.out.lt; omega) hTC'.out (hE'.out.below hB5) (by have := hE'.out.lt; omega) (by have := hE'.out.lt; omega) hEC'.out hEb
    (by rw [hme'.out]; exact hbP) hbS
    (fun k y hy => by
      obtain ⟨rfl, g, cs, c', hPA, hg, hh, rfl, hc0⟩ := hp2'.out k y hy
      exact ⟨g, cs, A, c', hPA, hh.below hb25 hh.lt, by omega, hc0, (hr'.out.kept (Kept.below hB5 (fun q hq => hq.1))).mono (fun q hq => ⟨by have := hq.1; omega, by have := hq.1; omega, hq.2⟩)⟩) hs5
  rw [runC_pcs hok'.out] at hseq
  have hseq' := Lib.hid hseq
  have kT5' := Lib.hid kT5
  have hB5' := Lib.hid hB5
  have hcnt' := Lib.hid (show (stepC most s x).1.length ≤ 100000 by have := hn'.out; omega)
  have hT0 : w.heap.size < w5.heap.size := by omega
  clear hseq kT5 hB5 hB2 hs5 hl4 hcnt hb25 hbS hbP
  refine (wpIn_wide (n := 3)).1 ?_
  refine wpIn_range_turnH 0 (gf := 69) (lb := #[.pointer (some ⟨w2.heap.size + 1, 0, none⟩), .pointer (some ⟨w2.heap.size, 0, none⟩)]) rfl (enters_of Tryd.func69 (by kernel_rfl) rfl)
    hseq'.out (fun h k => h.trans k) (fun W l o o' h0 h1 h2 _ => KeepL.putObj W l o o' h0 h1 h2) (Below.refl _ _) (fun _ => rfl)
    (WlI w w.heap.size w5.heap.size (ChL sp dp ob)) WlX (fun W => WlM w w.heap.size w5.heap.size (ChL sp dp ob) (stepC most s x).1 W ∧ SpW W nb sp dp most w5.heap.size ob (fun _ => False) (stepC most s x).2)
    (fun pre X Y hs ht => by
      obtain ⟨⟨v, h1, h2⟩, h3, h4⟩ := hs
      exact ⟨⟨v, ht.has h1 (by decide), h2.turn ht⟩, ht.chg h3 (by omega) (fun k _ hk => hk), Nat.le_trans h4 ht.size⟩)
    (fun c pre X Y hs _ => hs.elim) (fun W l o o' h h1 h2 => h.putObj o' h1 h2) ⟨⟨_, kT5'.out, lns_nil _ _⟩, .of_below hB5'.out, Nat.le_refl _⟩
    (fun xs W h1 h2 h3 => by
      subst h1
      have h2 : WlM w w.heap.size w5.heap.size (ChL sp dp ob) ((numL 0 (stepC most s x).1).map (·.2)) W := h2
      rw [numL_snd] at h2
      exact ⟨h2, h3⟩) (fun c pre W _ h => h.elim)
    (AxB ?F 70 (fun y : Nat × List UInt8 × Bool => #[.string ⟨y.2.1.toArray⟩, .bool y.2.2])) (fun y a' W l o o' h h1 h2 => by
      obtain ⟨k, h3, h4⟩ := h
      exact ⟨k, h3, h4.putNon o' h1 h2⟩) ?assign ?body (fun _ _ h => h) ?rest
  case assign =>
    intro l pre y W K hI hK
    have hK' := Lib.hid hK
    have hI' := Lib.hid hI
    clear hK hI
    dsimp only [encLn]
    gi_wp2
    obtain ⟨k, hk⟩ : ∃ k, W.heap.size = k := ⟨_, rfl⟩
    have hnew := Has.new W 70 #[.string ⟨y.2.1.toArray⟩, .bool y.2.2]
    rw [hk] at hnew ⊢
    have hb : Below W.heap.size W (W.alloc (.cells #[.string ⟨y.2.1.toArray⟩, .bool y.2.2] 70)) := (Below.refl _ _).alloc (Nat.le_refl _) _
    refine hK'.out _ _ ((KeepsOthers.alloc _ _).from _) (.below hb) ?_ ⟨k, ?_, hnew⟩
    · obtain ⟨⟨v, h1, h2⟩, h3, h4⟩ := hI'.out
      exact ⟨⟨v, h1.below hb h1.lt, h2.below hb⟩, h3.trans (.of_below hb), Nat.le_trans h4 hb.size⟩
    · rfl
  case body =>
    rintro l pre y a' W hl ⟨r, hr⟩ hI ⟨k, rfl, hk⟩ hlen
    obtain ⟨⟨v, mv, mL⟩, mC, mn⟩ := hI
    have c0 := mv.cell 0
    have d0 : W.cell? ⟨k, 0, none⟩ = some (.string ⟨y.2.1.toArray⟩) := hk.cell 0
    have d1 : W.cell? ⟨k, 1, none⟩ = some (.bool y.2.2) := hk.cell 1
    have hpl : (pre.map (·.2)).length + 1 ≤ 1099511627776 := by rw [List.length_map]; have := hcnt'.out; omega
    have hpm : (pre ++ [y]).map (·.2) = pre.map (·.2) ++ [(y.2.1, y.2.2)] := by simp
    obtain ⟨ls, hls⟩ : ∃ ls, pre.map (·.2) = ls := ⟨_, rfl⟩
    rw [hls] at mL hpl hpm
    have hpm' := Lib.hid hpm
    have hpl' := Lib.hid hpl
    have mC' := Lib.hid mC
    obtain ⟨yt, hyt⟩ : ∃ yt, y.2.1 = yt := ⟨_, rfl⟩
    obtain ⟨yb, hyb⟩ : ∃ yb, y.2.2 = yb := ⟨_, rfl⟩
    rw [hyt] at d0 hpm'
    rw [hyb] at d1 hpm'
    have hbl : Below W.heap.size W (W.alloc (.cells #[.string ⟨yt.toArray⟩, .bool yb] 70)) := (Below.refl _ _).alloc (Nat.le_refl _) _
    have mL2 := Lib.hid (mL.below hbl)
    have mv2 := Lib.hid (mv.below hbl mv.lt)
    have mC2 := Lib.hid (mC.trans (.of_below hbl))
    have hnw := Lib.hid (Has.new W 70 #[.string ⟨yt.toArray⟩, .bool yb])
    have hbl' := Lib.hid hbl
    clear mv mL mC hk hr hpl hpm hls hyt hyb hlen hbl
    gi_wp2_with (refine wpListIn_append_line rfl _ _ rfl rfl mL2.out _ yt yb rfl hnw.out hpl'.out (by rw [World.size_alloc]; omega) ?_; intro v6 w6 hL6 hg6; have kT6 : Has w6 w.heap.size _ _ := (hg6.block w.heap.size mv2.out.lt (fun e => by have := (mL2.out.own _ e.symm).1; omega)).trans mv2.out; have c6 := kT6.cell 0; have f6 := kT6.free 0; have kT6' := Lib.hid kT6; have hL6' := Lib.hid hL6; have hg6' := Lib.hid hg6; obtain ⟨A6, c7, rfl, _⟩ := hL6.shape; obtain ⟨m6, hm6⟩ : ∃ m, (ls ++ [(yt, yb)]).length = m := ⟨_, rfl⟩; rw [hm6] at hL6' ⊢; have hm6' := Lib.hid hm6; clear kT6 hL6 hg6 hm6)
    have hz6 := hg6'.out.size
    rw [World.size_alloc] at hz6
    refine ⟨(((KeepsOthers.alloc _ _).trans (others_lines mL2.out hg6'.out)).trans (KeepsOthers.setCell _ _ _)).from _, ((KeepL.below hbl'.out).grown hg6'.out (fun g e => mL2.out.own g e)).setCell (Wr := (· = w.heap.size)) (p := ⟨w.heap.size, 0, none⟩) rfl _, ⟨_, by simpa using kT6'.out.put 0 (.slice A6 m6 c7), ?_⟩, ?_, by simp; omega⟩
    · rw [hpm'.out]
      exact hL6'.out.kept (fun g e => Below.heap_setCell _ ⟨w.heap.size, 0, none⟩ _ g (fun (h : g = w.heap.size) => by have := (hL6'.out.own g e).1; omega))
    · exact (mC2.out.grownBy hg6'.out (fun g e => by have := (mL2.out.own g e).1; omega)).setNew (Nat.le_refl _) _ _
  case rest =>
    rintro D W hD ⟨⟨⟨v, mv, mL⟩, mC, mn⟩, hS⟩ hDn
    obtain ⟨A6, c6, rfl, _⟩ := mL.shape
    have c0 := mv.cell 0
    obtain ⟨m6, hm6⟩ : ∃ m, (stepC most s x).1.length = m := ⟨_, rfl⟩
    rw [hm6] at c0
    have mL' : Hid (Lns W w5.heap.size (.slice A6 m6 c6) (stepC most s x).1) := Lib.hid (by rw [← hm6]; exact mL)
    have mC' := Lib.hid mC
    have hS' := Lib.hid hS
    have hDn' := Lib.hid hDn
    clear mv mL mC hS hDn hm6
    go_wp2
    refine ⟨by simp, .inl ⟨_, _, rfl, run_takeDeferred hDn'.out, ?_⟩⟩
    refine ⟨_, results_tmp2 (t := 4) (u := 5) rfl _ _ _, ?_⟩
    obtain ⟨vb, q1, q2, q3, q4⟩ := hS'.out.putObj (.deferred none) hDn'.out rfl
    refine ⟨.slice A6 m6 c6, vb.ownBlock, rfl, ?_, ⟨vb, q1, q2, q3, rfl⟩, fun k hk => (q4 k hk).1.imp id (fun h => by omega), mC'.out.putObj D _ (by omega)⟩
    have h := mL'.out.putNon (.deferred none) hDn'.out rfl
    refine ⟨h.1, ?_⟩
    rcases h.2 with h | ⟨g, cap, cur, e, hb, r⟩
    · exact .inl h
    · exact .inr ⟨g, cap, cur, e, by omega, r⟩
end Go.Proofs.YthdmmlaahjgijaaDoor
