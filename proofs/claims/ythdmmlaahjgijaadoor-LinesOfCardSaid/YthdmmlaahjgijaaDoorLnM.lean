import Derived.Test.YthdmmlaahjgijaaDoorLnK
import Derived.Lib.MinMax
namespace Go.Proofs.YthdmmlaahjgijaaDoor
open Go.RowKit Go.Shelf

/-! ## Bytes in pieces; the iterator of lines -/
theorem come_any (p : Option Addr) (PA : Option Addr) (m pc : Nat) (w : World) : Calls Tryd.prog 58 #[.pointer p, .slice PA m pc] w fun e w' =>
    e = .returned (.func (.func 69) #[] #[.pointer (some ⟨w.heap.size + 1, 0, none⟩), .pointer (some ⟨w.heap.size, 0, none⟩)]) ∧ w' = (w.alloc (.cells #[.pointer p] 72)).alloc (.cells #[.slice PA m pc] 39) := by
  go_enter Tryd.func58, Tryd.ntmps58
  go_wp2
  go_ret
  exact ⟨rfl, rfl⟩
def pcs (b : List UInt8) : List (List UInt8) := if b = [] then [] else [b]
theorem runC_pcs {most : Nat} {s : CSt} (h : s.ok most) (x : List UInt8) : runC most s (pcs x) = stepC most s x := by
  unfold pcs
  split
  · rename_i hx
    rw [hx, stepC_nil h]; rfl
  · simp [runC]
theorem infoPc : (Tryd.prog.info? 22).map (fun i => (i.zero, i.size, i.bytes)) = some (some (.slice none 0 0), 1, 24) := by kernel_rfl
/-- One piece put to none. -/
theorem wpList_append_piece {w : World} {ops : Array Oper} {rest : List Oper} {o : Oper} {a : Act} {Q : Exit → Act → World → Prop} (hgd : o.guard = none) (s x : Operand) (ho : o.op = .call { callee := .builtin .append, args := #[s, x], argTypes := #[39, 39] }) (hsv : a.eval s = .slice none 0 0)
    (k : Nat) (A : Option Addr) (n c : Nat) (hxv : a.eval x = .slice (some ⟨k, 0, none⟩) 1 1) (hx : Has w k 22 #[.slice A n c])
    (h : ∀ (g c2 : Nat) (cs : Array Value) w', w.heap.size ≤ g → Has w' g 22 cs → cs[0]? = some (.slice A n c) → Below w.heap.size w w' → wpList Tryd.prog ops Q rest (a.put o.dst (.slice (some ⟨g, 0, none⟩) 1 c2)) w') : wpList Tryd.prog ops Q (o :: rest) a w := by
  obtain ⟨i, hi, hz, hz1, hz2⟩ := info_parts infoPc
  refine wpList_append_own w hgd s x 39 ho w.heap.size 22 i _ 1 24 Tryd.underlying39 hi hz hz1 hz2 rfl (by decide) (.slice none 0 0) 0 [] hsv ⟨rfl, .inl ⟨rfl, rfl⟩⟩ ⟨k, 0, none⟩ 1 1 [.slice A n c] hxv rfl (fun j u hu => ?_) (fun u hu => by obtain rfl := List.mem_singleton.1 hu; rfl) (by simp [maxLen]) (by omega) (Nat.le_refl _) (fun v' w' h1 h2 h3 => ?_)
  · rw [add_zero_, Nat.zero_add, hx.cell]
    simpa using hu
  · rcases h1.2 with ⟨rfl, h0⟩ | ⟨g, cap, cur, rfl, hb, hg, hnc, hcm, hcs, htk⟩
    · cases h0
    · refine h g cap cur w' hb hg ?_ ⟨h2.os, h2.tape, h2.output, h2.size, fun k hk => h2.block k hk (by simp [Value.ownBlock])⟩
      have := congrArg (fun l => l[0]?) htk
      simpa using this
def CutOf (A : Option Addr) (b : List UInt8) (w : World) (e : Ending) (w' : World) : Prop :=
  ∃ PA pc, e = .returned (.slice PA (pcs b).length pc) ∧ Below w.heap.size w w' ∧ ∀ k x, (pcs b)[k]? = some x → x = b ∧ ∃ g cs c, PA = some ⟨g, 0, none⟩ ∧ w.heap.size ≤ g ∧ Has w' g 22 cs ∧ k = 0 ∧ cs[0]? = some (.slice A b.length c)
set_option maxRecDepth 100000 in
set_option maxHeartbeats 1000000 in
theorem cut_any (A : Option Addr) (b : List UInt8) (n c : Nat) (w : World) (hn : n = b.length) (hc : n ≤ c) (__hcm : c ≤ 9223372036854775807) (hl : n ≤ 4096) (hA : 0 < n → ∃ ad, A = some ad) :
    Calls Tryd.prog 55 #[.slice A n c] w (CutOf A b w) := by
  have hn' := Lib.hid hn
  have hA' := Lib.hid hA
  clear hn hA
  go_enter Tryd.func55, Tryd.ntmps55
  go_wp2
  go_loopw [0, 3] (fun x0 x3 wr => (x0 = .slice A n c ∧ x3 = .slice none 0 0 ∧ w = wr) ∨ (0 < n ∧ ∃ A' c' g c2 cs, x0 = .slice A' 0 c' ∧ x3 = .slice (some ⟨g, 0, none⟩) 1 c2 ∧ w.heap.size ≤ g ∧ Has wr g 22 cs ∧ cs[0]? = some (.slice A n n) ∧ Below w.heap.size w wr)) (fun x0 _ _ => lenV x0)
  case atStart => exact .inl ⟨rfl, rfl, rfl⟩
  case round =>
    rcases hrel with ⟨rfl, rfl, rfl⟩ | ⟨hn0, A', c', g, c2, cs, rfl, rfl, hg, hh, hcs, hb⟩
    · by_cases h0 : 0 < n
      · obtain ⟨ad, rfl⟩ := hA'.out h0
        have hi0 : (0 : Int) < (n : Int) := by omega
        have hi1 : (n : Int) ≤ 4096 := by omega
        have hi2 : (n : Int) ≤ (c : Int) := by omega
        have hmin : min (n : Int) 4096 = (n : Int) := by omega
        go_wp2_with (first
          | (at_builtin; refine wpList_append_piece rfl _ _ rfl rfl _ (some ad) n n rfl (Has.new _ _ _) ?_; intro g2 c2 cs2 w2 hg2 hh2 hcs2 hb2; have hg2' := Lib.hid hg2; have hh2' := Lib.hid hh2; have hcs2' := Lib.hid hcs2; have hb2' := Lib.hid hb2; clear hg2 hh2 hcs2 hb2)
          | fail)
        have hg2 := hg2'.out
        rw [World.size_alloc] at hg2
        refine ⟨.inr ⟨h0, _, _, g2, c2, cs2, rfl, rfl, by omega, hh2'.out, hcs2'.out, ?_⟩, by simp [lenV]; omega⟩
        exact ((Below.refl w.heap.size w).alloc (Nat.le_refl _) _).trans (hb2'.out.mono (by simp))
      · have hni : ¬ (0 : Int) < (n : Int) := by omega
        have hb0 : b = [] := List.eq_nil_of_length_eq_zero (by have := hn'.out; omega)
        have hb0' := Lib.hid hb0
        clear hb0
        go_wp2
        go_ret
        exact ⟨none, 0, by rw [hb0'.out]; rfl, Below.refl _ _, fun k x hx => by rw [hb0'.out] at hx; simp [pcs] at hx⟩
    · have hb' := Lib.hid hb
      have hh' := Lib.hid hh
      have hcs' := Lib.hid hcs
      have hni : ¬ (0 : Int) < ((0 : Nat) : Int) := by omega
      have hb0 : b ≠ [] := fun e => by have := hn'.out; rw [e] at this; simp at this; omega
      have hb0' := Lib.hid hb0
      clear hb hh hcs hb0
      go_wp2
      go_ret
      refine ⟨some ⟨g, 0, none⟩, c2, by unfold pcs; rw [if_neg hb0'.out]; rfl, hb'.out, fun k x hx => ?_⟩
      unfold pcs at hx
      rw [if_neg hb0'.out] at hx
      cases k with
      | zero =>
        obtain rfl : b = x := by simpa using hx
        exact ⟨rfl, g, cs, n, rfl, hg, hh'.out, rfl, by rw [← hn'.out]; exact hcs'.out⟩
      | succ k => simp at hx
/-- What the pieces of bytes are, told of at a world w: none of their blocks turns. -/
def ChL (sp dp : Nat) (ob : Option Nat) (k : Nat) : Prop := k = sp ∨ k = dp ∨ ob = some k
theorem come1_stops (n : Nat) (hn : 1 ≤ n) (bP bS sp dp most n0 nb : Nat) (Wr : Nat → Prop) (ob : Option Nat) (PA : Option Addr) (pc : Nat) (xs : List (List UInt8)) (s : CSt) (w : World)
    (hn0 : n0 ≤ w.heap.size) (hWr : ∀ k, Wr k → k < n0) (hsW : ¬ Wr sp) (hdW : ¬ Wr dp) (hoW : ∀ k, ob = some k → ¬ Wr k) (hPW : ¬ Wr bP) (hSW : ¬ Wr bS) (hm1 : 1 ≤ most) (hm : most ≤ 65536) (hnb : nb ≤ w.heap.size)
    (hxl : ∀ x ∈ xs, x.length ≤ 300000) (hxs : xs.length ≤ 1000000) (hN : (runC most s xs).1.length ≤ 1099511627776) (hok : s.ok most)
    (hT : Tab w) (hTn : 0 < n0) (hTW : ¬ Wr 0) (hTC : ¬ ChL sp dp ob 0)
    (hE : Ends w) (hEn : 1 < n0) (hEW : ¬ Wr 1) (hEC : ¬ ChL sp dp ob 1) (hEb : 1 < nb)
    (hbP : Has w bP 39 #[.slice PA xs.length pc]) (hbS : Has w bS 72 #[.pointer (some ⟨sp, 0, none⟩)])
    (hPc : ∀ (k : Nat) (x : List UInt8), xs[k]? = some x → ∃ (g : Nat) (cs : Array Value) (A : Option Addr) (c : Nat), PA = some ⟨g, 0, none⟩ ∧ Has w g 22 cs ∧ ¬ Wr g ∧ cs[k]? = some (Value.slice A x.length c) ∧ Rd w (fun q => q < n0 ∧ ¬ Wr q ∧ ¬ ChL sp dp ob q) A x)
    (hSp : ∃ vb, Has w sp 90 #[.pointer (some ⟨dp, 0, none⟩), .bool s.any, vb, .bool s.l.long, .int .i64 (most : Int), .bool s.l.half] ∧ Bs w nb vb s.l.bytes ∧ Dec w dp s.ws ∧ vb.ownBlock = ob) :
    SeqTurn n Tryd.prog 69 #[.pointer (some ⟨bP, 0, none⟩), .pointer (some ⟨bS, 0, none⟩)] encLn (KeepL n0 Wr) (ChL sp dp ob) (fun ys => ys = numL 0 (runC most s xs).1) (fun pre => ∃ a b, (runC most s xs).1 = a ++ b ∧ pre = numL 0 a)
      (fun V => SpW V nb sp dp most w.heap.size ob (fun _ => False) (runC most s xs).2) (runC most s xs).1.length w := by
  intro l J Jx W hW hJ _ hY h0
  have hWs := hW.size
  refine (come1_in n hn l bP bS sp dp most n0 nb Wr ob PA pc xs
    (fun X => (∀ k, k < n0 → ¬ Wr k → ¬ ChL sp dp ob k → X.heap[k]? = w.heap[k]?) ∧ w.heap.size ≤ X.heap.size ∧ Has X bP 39 #[.slice PA xs.length pc] ∧ Has X bS 72 #[.pointer (some ⟨sp, 0, none⟩)] ∧
      (∀ (k : Nat) (x : List UInt8), xs[k]? = some x → ∃ (g : Nat) (cs : Array Value) (A : Option Addr) (c : Nat), PA = some ⟨g, 0, none⟩ ∧ Has X g 22 cs ∧ ¬ Wr g ∧ cs[k]? = some (Value.slice A x.length c) ∧ Rd w (fun q => q < n0 ∧ ¬ Wr q ∧ ¬ ChL sp dp ob q) A x)) W
    hWr hsW hdW hoW hEb (fun e => hEC (.inl e)) (by omega) hm1 hm hxl hxs ?_ ?_ ?_ s hok hN J Jx hJ ?_ (by omega) ?_ ?_ h0).mono ?_
  · rintro X ⟨h1, h2, h3, h4, h5⟩
    refine ⟨h3, h4, fun k x hx => ?_, hT.kept (h1 _ hTn hTW hTC), hE.kept (h1 _ hEn hEW hEC)⟩
    obtain ⟨g, cs, A, c, hPA, hg, _, hc, hr⟩ := h5 k x hx
    refine ⟨_, A, c, hPA, ?_, (hr.kept (fun q hq => h1 q hq.1 hq.2.1 hq.2.2)).mono (fun q hq => by omega)⟩
    rw [add_zero_, Nat.zero_add, hg.cell]
    exact hc
  · rintro X Y hTu ⟨h1, h2, h3, h4, h5⟩
    refine ⟨fun k hk hw hc => (hTu.low k (by omega) (by omega) hc).trans (h1 k hk hw hc), by have := hTu.size; omega, hTu.has h3 (by decide), hTu.has h4 (by decide), fun k x hx => ?_⟩
    obtain ⟨g, cs, A, c, hPA, hg, hgw, hc, hr⟩ := h5 k x hx
    exact ⟨g, cs, A, c, hPA, hTu.has hg (by decide), hgw, hc, hr⟩
  · rintro X Y hK ⟨h1, h2, h3, h4, h5⟩
    refine ⟨fun k hk hw hc => (hK.low k (by omega) (by omega) hw).trans (h1 k hk hw hc), by have := hK.size; omega, hK.has (by decide) hPW h3, hK.has (by decide) hSW h4, fun k x hx => ?_⟩
    obtain ⟨g, cs, A, c, hPA, hg, hgw, hc, hr⟩ := h5 k x hx
    exact ⟨g, cs, A, c, hPA, hK.has (by decide) hgw hg, hgw, hc, hr⟩
  · intro pre y V hj hl
    obtain ⟨fn, tmps, assign, body, hy, hR⟩ := hY pre y V hj hl
    exact ⟨fn, tmps, assign, body, hy, hR.mono (fun e V' h => h.2)⟩
  · refine ⟨fun k hk _ _ => hW.block k (by omega), hWs, hbP.below hW hbP.lt, hbS.below hW hbS.lt, fun k x hx => ?_⟩
    obtain ⟨g, cs, A, c, hPA, hg, hgw, hc, hr⟩ := hPc k x hx
    exact ⟨g, cs, A, c, hPA, hg.below hW hg.lt, hgw, hc, hr⟩
  · obtain ⟨vb, h1, h2, h3, h4⟩ := hSp
    exact ⟨vb, h1.below hW h1.lt, h2.below hW, h3.below hW, fun k hk => ⟨.inl (h4.symm.trans hk), fun h => h⟩⟩
  · rintro e V ⟨hv, (⟨ys, h1, h2, vb, h3, h4, h5, h6⟩ | ⟨pre, h1, h2⟩)⟩
    · exact ⟨hv, .inl ⟨ys, h1, h2, vb, h3, h4, h5, fun k hk => ⟨(h6 k hk).1.imp id (fun h => by omega), fun h => h⟩⟩⟩
    · exact ⟨hv, .inr ⟨pre, h1, h2⟩⟩
end Go.Proofs.YthdmmlaahjgijaaDoor
