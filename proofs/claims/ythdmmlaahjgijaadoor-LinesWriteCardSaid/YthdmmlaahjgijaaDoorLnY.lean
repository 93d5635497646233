import Derived.Test.YthdmmlaahjgijaaDoorLnV
import Derived.Test.YthdmmlaahjgijaaDoorLnX
import Derived.Test.YthdmmlaahjgijaaDoorLnP
import Derived.Test.YthdmmlaahjgijaaDoorLnR
import Derived.Deep.Cut
import Derived.Deep.RegionHeld3
namespace Go.Proofs.YthdmmlaahjgijaaDoor
open Go.RowKit Go.Shelf

/-! ## The law of a splitter, piece by piece -/
theorem writesL_works (z : Int) (A : Option Addr) (n c : Nat) (zr : Bool) (w : World) (hT : Tab w) (hE : Ends w) (hl : 30 < n) (hm : n ≤ maxLen) :
    Calls Tryd.prog 9 #[.int .i64 z, .slice A n c, .bool zr] w fun e w' => e = .returned (.bool true) ∧ Below w.heap.size w w' := by
  unfold maxLen at hm
  have hw := Lib.hid (worksL_any w hT hE)
  clear hT hE
  go_enter Tryd.func9, Tryd.ntmps9
  go_wp2_with (go_at_call 29; refine hw.out.mono ?_; rintro e w9 ⟨rfl, hb9⟩)
  go_ret
  exact ⟨rfl, hb9⟩
/-- How both splitters stand. -/
def StL (w : World) (q most sp : Nat) (r : RSt) (W : World) : Prop :=
  ∃ dp ob A c, SpO W w.heap.size sp dp most ob (absC most r) ∧ w.heap.size ≤ sp ∧ w.heap.size ≤ dp ∧ Below w.heap.size w W ∧ w.heap.size ≤ q ∧
    Has W q 76 #[.slice A r.ws.length c, .int .i64 (most : Int), .string ⟨r.line.toArray⟩, .bool r.any, .bool r.half] ∧
    Rd W (fun b => b < W.heap.size ∧ b ≠ q ∧ ¬ ChL sp dp ob b) A r.ws ∧ r.line.length ≤ most + 4 ∧ r.ws.length ≤ 3 ∧ (absC most r).ok most
theorem StL.below {w W W' : World} {q most sp : Nat} {r : RSt} (h : StL w q most sp r W) (hb : Below W.heap.size W W') : StL w q most sp r W' := by
  obtain ⟨dp, ob, A, c, h1, h2, h3, h4, h5, h6, h7, h8, h9, h10⟩ := h
  exact ⟨dp, ob, A, c, h1.below hb, h2, h3, h4.trans (hb.mono h4.size), h5, h6.below hb h6.lt, (h7.kept (Kept.below hb (fun b hb => hb.1))).mono (fun b hb' => ⟨Nat.lt_of_lt_of_le hb'.1 hb.size, hb'.2⟩), h8, h9, h10⟩
theorem spO_ne {W : World} {nb sp dp most q : Nat} {ob : Option Nat} {s : CSt} {cs : Array Value} (h : SpO W nb sp dp most ob s) (hq : Has W q 76 cs) : ¬ ChL sp dp ob q := by
  obtain ⟨vb, a1, a2, a3, a4⟩ := h
  obtain ⟨_, hd⟩ := a3.typed
  rintro (rfl | rfl | hk)
  · exact hq.apart a1 (by decide) rfl
  · exact hq.apart hd (by decide) rfl
  · obtain ⟨_, _, h8⟩ := a2.own q (a4.trans hk)
    exact hq.apart h8 (by decide) rfl
theorem LnAt.other {W W' : World} {A : Option Addr} {l : List (List UInt8 × Bool)} (h : LnAt W A l) (hc : ∀ g cs, Has W g 70 cs → W'.heap[g]? = W.heap[g]?) : LnAt W' A l := fun i x hx => by
  obtain ⟨g, hA, ⟨cs, hh⟩, h1, h2⟩ := h i x hx
  exact ⟨g, hA, ⟨cs, (hc g cs hh).trans hh⟩, (World.cell?_of_block (hc g cs hh)).trans h1, (World.cell?_of_block (hc g cs hh)).trans h2⟩
theorem chg_set5 (W : World) (k : Nat) (a b c d e : Value) : Chg (· = k) W (((((W.setCell ⟨k, 0, none⟩ a).setCell ⟨k, 1, none⟩ b).setCell ⟨k, 2, none⟩ c).setCell ⟨k, 3, none⟩ d).setCell ⟨k, 4, none⟩ e) :=
  (((((Chg.refl (· = k) W).set (k := k) rfl 0 a).set (k := k) rfl 1 b).set (k := k) rfl 2 c).set (k := k) rfl 3 d).set (k := k) rfl 4 e
theorem has_set5 {W : World} {k : Nat} {t : TypeId} {a0 b0 c0 d0 e0 : Value} (h : Has W k t #[a0, b0, c0, d0, e0]) (a b c d e : Value) : Has (((((W.setCell ⟨k, 0, none⟩ a).setCell ⟨k, 1, none⟩ b).setCell ⟨k, 2, none⟩ c).setCell ⟨k, 3, none⟩ d).setCell ⟨k, 4, none⟩ e) k t #[a, b, c, d, e] := by
  simpa using ((((h.put 0 a).put 1 b).put 2 c).put 3 d).put 4 e
set_option maxRecDepth 100000 in
set_option maxHeartbeats 8000000 in
theorem lawWriteL (most : Nat) (A : Option Addr) (n c : Nat) (z : Bool) (xs : List (List UInt8)) (w : World) (hT : Tab w) (hE : Ends w) (hn : n = xs.length) (hA : LL w A xs) (hl : n ≤ 30) (h1 : 1 ≤ most) (h2 : most ≤ 65536) :
    Calls Tryd.prog 9 #[.int .i64 (most : Int), .slice A n c, .bool z] w fun e w' => e = .returned (.bool true) ∧ Below w.heap.size w w' := by
  have hT' := Lib.hid hT
  have hE' := Lib.hid hE
  have hn' := Lib.hid hn
  have hA' := Lib.hid hA
  have t1 := hT.lt
  have t2 := hE.lt
  have hi1 : ¬ (most : Int) < 1 := by omega
  have hi2 : ¬ (65536 : Int) < (most : Int) := by omega
  have hnw := Lib.hid (newL_yes w.heap.size most w h1 h2)
  have hrn := Lib.hid (fun W => refNewL_yes most W h1 h2)
  clear hT hE hn hA
  go_enter Tryd.func9, Tryd.ntmps9
  go_upto_region 5 with (first
    | (go_at_call 35; (with_reducible refine Calls.mono hnw.out ?_); rintro e w1 ⟨sp, rfl, dp, hsp, hdp, hs1, hb1⟩; have hs1' := Lib.hid hs1; have hb1' := Lib.hid hb1; clear hs1 hb1)
    | (go_at_call 36; (with_reducible refine Calls.mono (hrn.out _) ?_); rintro e w2 ⟨rfl, hb2⟩; have hb2' := Lib.hid hb2; clear hb2))
  have z1 := hb1'.out.size
  have z2 := hb2'.out.size
  have hb3 : Below w2.heap.size w2 (w2.alloc (.cells #[.slice none 0 0, .int .i64 (most : Int), .string ⟨#[]⟩, .bool false, .bool false] 76)) := (Below.refl _ _).alloc (Nat.le_refl _) _
  have hS0 : StL w w2.heap.size most sp initR (w2.alloc (.cells #[.slice none 0 0, .int .i64 (most : Int), .string ⟨#[]⟩, .bool false, .bool false] 76)) := by
    refine ⟨dp, none, none, 0, ?_, hsp, hdp, ?_, by omega, Has.new w2 _ _, fun h => absurd h (by simp [initR]), by simp [initR], by simp [initR], by rw [absC_init]; exact init0_ok most⟩
    · rw [absC_init]; exact (hs1'.out.below hb2'.out).below hb3
    · exact (hb1'.out.trans (hb2'.out.mono z1)).trans (hb3.mono (by omega))
  obtain ⟨q, hq⟩ : ∃ q, w2.heap.size = q := ⟨_, rfl⟩
  obtain ⟨w3, hw3⟩ : ∃ w3, w2.alloc (.cells #[.slice none 0 0, .int .i64 (most : Int), .string ⟨#[]⟩, .bool false, .bool false] 76) = w3 := ⟨_, rfl⟩
  rw [hw3, hq] at hS0
  rw [hw3]
  rw [hq]
  have hS0' := Lib.hid hS0
  have hq' := Lib.hid hq
  clear hS0 hw3 hb3 hq z2
  go_wp2_with (go_at_call 34; (with_reducible refine Calls.mono (numLn_any _ _) ?_); rintro e w' ⟨rfl, rfl⟩)
  go_loopw [7, 11] (fun v7 v11 W => ∃ (k sp : Nat) (r : RSt), v7 = .pointer (some ⟨sp, 0, none⟩) ∧ v11 = .int .i64 (k : Int) ∧ k ≤ n ∧ StL w q most sp r W) (fun _ v11 _ => n - (intOf v11).toNat)
  case atStart => exact ⟨0, sp, initR, rfl, rfl, Nat.zero_le _, hS0'.out⟩
  case round =>
    obtain ⟨k, sp, r, rfl, rfl, hk, hS⟩ := hrel
    have hS' := Lib.hid hS
    have hBr : Below w.heap.size w wr := by obtain ⟨_, _, _, _, _, _, _, h, _⟩ := hS; exact h
    have hzr := hBr.size
    by_cases hlt : k < n
    · have hki : (k : Int) < (n : Int) := by omega
      have hkn : (0 : Int) ≤ (k : Int) := by omega
      obtain ⟨x, hx⟩ : ∃ x, xs[k]? = some x := ⟨xs[k]'(by have := hn'.out; omega), List.getElem?_eq_getElem (by have := hn'.out; omega)⟩
      obtain ⟨b, o, rfl, hbw, hcell⟩ := hA'.out (by have := hn'.out; omega)
      obtain ⟨Ai, ci, hc1, hxc1, hxc2, hri⟩ := hcell k x hx
      have hlc : ∀ W, Below w.heap.size w W → W.cell? ⟨b, o + k, none⟩ = some (.slice Ai x.length ci) := fun W hb => (hb.cell (p := ⟨b, o + k, none⟩) hbw).trans hc1
      have hli := Lib.hid (fun W (hb : Below w.heap.size w W) => rd_below hri hb (Nat.le_refl _))
      have hri' := Lib.hid hri
      obtain ⟨m, hm⟩ : ∃ m, x.length = m := ⟨_, rfl⟩
      rw [hm] at hlc hxc1
      have e1 := hlc wr hBr
      have hlc' := Lib.hid hlc
      have hm' := Lib.hid hm
      have hBr' := Lib.hid hBr
      have hTr := Lib.hid (hT'.out.below hBr)
      have hEr := Lib.hid (hE'.out.below hBr)
      clear hcell hc1 hri hlc hBr hS hm hx
      by_cases h60 : 60 < m
      · have h60i : (60 : Int) < (m : Int) := by omega
        go_wp2_with (go_at_call 29; (with_reducible refine Calls.mono (worksL_any _ hTr.out hEr.out) ?_); rintro e w9 ⟨rfl, hb9⟩)
        go_ret
        exact ⟨rfl, below_at hBr'.out hb9 hzr⟩
      · have h60i : (m : Int) ≤ 60 := by omega
        go_upto_if 64 with (fail)
        go_cut [7] from 45 to 118 (fun s7 wx => ∃ (sp : Nat) (r : RSt), s7 = .pointer (some ⟨sp, 0, none⟩) ∧ StL w q most sp r wx)
        case first =>
          obtain ⟨dp, ob, A', c', g1, g2, g3, g4, g5, g6, g7, g8, g9, g10⟩ := hS'.out
          have hqn := spO_ne g1 g6
          have hgl := g6.lt
          have hrsx := fun (W : World) (h : SpO W w.heap.size sp dp most ob (absC most r)) => resetL_any w.heap.size sp dp most ob _ W h h1
          have hrs := Lib.hid hrsx
          have g1' := Lib.hid g1
          have g6' := Lib.hid g6
          have g4' := Lib.hid g4
          have hqn' := Lib.hid hqn
          clear g1 g4 g6 g7 g9 g10 hqn hrsx
          go_wp2_with (first
            | (go_at_call 36; (with_reducible refine Calls.mono (hrn.out _) ?_); rintro e w2 ⟨rfl, hb2⟩; have hb2' := Lib.hid hb2; have kq := g6'.out.below hb2 hgl; have y0 := kq.cell 0; have y1 := kq.cell 1; have y2 := kq.cell 2; have y3 := kq.cell 3; have y4 := kq.cell 4; have q0 := kq.free 0; have q1 := kq.free 1; have q2 := kq.free 2; have q3 := kq.free 3; have q4 := kq.free 4; have kq' := Lib.hid (has_set5 kq (.slice none 0 0) (.int .i64 (most : Int)) (.string ⟨#[]⟩) (.bool false) (.bool false)); have hs3 := Lib.hid (hrs.out _ ((g1'.out.below hb2).chg (chg_set5 w2 q (.slice none 0 0) (.int .i64 (most : Int)) (.string ⟨#[]⟩) (.bool false) (.bool false)) (fun h => hqn'.out (.inl h.symm)) (fun h => hqn'.out (.inr (.inl h.symm))) (fun j hj h => hqn'.out (.inr (.inr (by rw [← h]; exact hj)))))); clear hb2 kq)
            | (go_at_call 37; (with_reducible refine Calls.mono hs3.out ?_); rintro e w4 ⟨rfl, d4, hd4, hs4, hC4⟩; have hs4' := Lib.hid hs4; have hC4' := Lib.hid hC4; clear hs4 hC4)
            | (go_at_call 34; (with_reducible refine Calls.mono (numLn_any _ _) ?_); rintro e w5 ⟨rfl, rfl⟩))
          all_goals
            go_meet
          case rel =>
            have hz2 := hb2'.out.size
            have hz3 := (chg_set5 w2 q (.slice none 0 0) (.int .i64 (most : Int)) (.string ⟨#[]⟩) (.bool false) (.bool false)).size
            refine ⟨sp, initR, rfl, d4, none, none, 0, by rw [absC_init]; exact hs4'.out, g2, by omega, ?_, g5, hC4'.out.has (fun h => hqn'.out (.inl h)) kq'.out, fun h => absurd h (by simp [initR]), by simp [initR], by simp [initR], by rw [absC_init]; exact init0_ok most⟩
            have h1 := g4'.out.trans (hb2'.out.mono hzr)
            have h2 : Below w.heap.size w _ := h1.trans ((chg_set5 w2 q (.slice none 0 0) (.int .i64 (most : Int)) (.string ⟨#[]⟩) (.bool false) (.bool false)).below (fun j (hj : j = q) => by omega) (by omega))
            exact h2.trans (hC4'.out.below (fun j (hj : j = sp) => by omega) (by omega))
          case rel => exact ⟨sp, r, rfl, hS'.out⟩
        case rest =>
          clear hS' hBr' hTr hEr e1 hzr
          obtain ⟨sp, r, rfl, hS⟩ := hcut
          have hS' := Lib.hid hS
          have hBc : Below w.heap.size w wc := by obtain ⟨_, _, _, _, _, _, _, h, _⟩ := hS; exact h
          have hzr := hBc.size
          have hBc' := Lib.hid hBc
          clear hS hBc
          go_upto_if 76 with (fail)
          go_cut [7, 12] from 45 to 118 (fun s7 _ wx => ∃ (sp : Nat) (r : RSt), s7 = .pointer (some ⟨sp, 0, none⟩) ∧ StL w q most sp r wx)
          case first =>
            obtain ⟨dp, ob, A', c', g1, g2, g3, g4, g5, g6, g7, g8, g9, g10⟩ := hS'.out
            have hqn := spO_ne g1 g6
            obtain ⟨l1, l2, _, l4⟩ := g1.lt
            have hcc := fun (w : World) (C : Array Value) (n c : Nat) => Lib.run_convert_bytes_const (P := Tryd.prog) w 22 5 C n c Tryd.underlying22 Tryd.underlying5
            have hcp := Lib.hid (copyL_any w.heap.size sp dp most ob _ wc g1 h1 h2 g10 hzr)
            have hCl : ∀ j, ChL sp dp ob j → j < wc.heap.size ∧ w.heap.size ≤ j := fun j hj => by
              rcases hj with rfl | rfl | hj
              · exact ⟨l1, g2⟩
              · exact ⟨l2, g3⟩
              · exact ⟨(l4 j hj).1, (l4 j hj).2.2.2⟩
            have hwr := Lib.hid (fun (w2 : World) (hb2 : Below wc.heap.size wc w2) (fr : Nat × Nat) => writeL_any sp dp most w.heap.size ob _ [120, 10, 13] (some ⟨w2.heap.size, 0, none⟩) 3 3 (w2.alloc (.cells #[.int .u8 120, .int .u8 10, .int .u8 13] 5 fr)) ((g1.below hb2).below ((Below.refl _ _).alloc (Nat.le_refl _) _)) g10 h1 h2 rfl (by decide) (by decide) (by decide) ((lit_fr w2 [120, 10, 13] _ fr rfl).mono (fun j hj => ⟨hj.1, fun h => by have := (hCl j h).1; have := hb2.size; have := hj.2; omega⟩)) ((hT'.out.below (hBc'.out.trans (hb2.mono hzr))).below ((Below.refl _ _).alloc (Nat.le_refl _) _)) ((hE'.out.below (hBc'.out.trans (hb2.mono hzr))).below ((Below.refl _ _).alloc (Nat.le_refl _) _)) (fun h => by have := (hCl _ h).2; omega) (fun h => by have := (hCl _ h).2; omega) t2 (by have := hb2.size; simp; omega))
            have g1' := Lib.hid g1
            have g6' := Lib.hid g6
            have g7' := Lib.hid g7
            have hqn' := Lib.hid hqn
            have hCl' := Lib.hid hCl
            have g10' := Lib.hid g10
            clear g1 g4 g6 g7 hqn l4 hCl g10
            go_wp2_with (first
              | (go_at_call 38; (with_reducible refine Calls.mono hcp.out ?_); rintro e w2 ⟨sp2, dp2, ob2, rfl, hp2, hd2, hs2, ho2, hb2⟩; have hs2' := Lib.hid hs2; have ho2' := Lib.hid ho2; have hb2' := Lib.hid hb2; have hwx := Lib.hid (fun fr => hwr.out w2 hb2 fr); clear hs2 hb2 ho2)
              | (go_at_call 39; (with_reducible refine Calls.mono (hwx.out _) ?_); rintro e w4 ⟨v4, ob4, rfl, _, _, _, hC4⟩; have hC4' := Lib.hid hC4; clear hC4))
            all_goals
              go_meet
            case rel =>
              have hz2 := hb2'.out.size
              have hbl : Below w2.heap.size w2 (w2.alloc (.cells #[.int .u8 120, .int .u8 10, .int .u8 13] 5 (3, 4))) := (Below.refl _ _).alloc (Nat.le_refl _) _
              have hC4 : Chg (ChL sp dp ob) w2 w4 := (Chg.of_below hbl).trans hC4'.out
              have hCc : Chg (ChL sp dp ob) wc w4 := (Chg.of_below hb2'.out).trans hC4
              have hz4 := hC4.size
              refine ⟨sp2, r, rfl, dp2, ob2, A', c', hs2'.out.chg hC4 (fun h => by have := (hCl'.out _ h).1; omega) (fun h => by have := (hCl'.out _ h).1; omega) (fun j hj h => by have := (hCl'.out _ h).1; have := ho2'.out j hj; omega), by omega, by omega, hBc'.out.trans (hCc.below (fun j hj => (hCl'.out j hj).2) hzr), g5, hCc.has hqn'.out g6'.out, ?_, g8, g9, g10'.out⟩
              refine (g7'.out.kept (fun j hj => hCc.block j hj.1 hj.2.2)).mono (fun j hj => ⟨by have := hj.1; omega, hj.2.1, ?_⟩)
              have hj1 := hj.1
              rintro (h | h | h)
              · omega
              · omega
              · have := ho2'.out j h; omega
            case rel => exact ⟨sp, r, rfl, hS'.out⟩
          case rest =>
            clear hS' hBc' hzr
            obtain ⟨sp, r, rfl, hS⟩ := hcut
            obtain ⟨w8, hw8⟩ : ∃ w8, w8 = wc := ⟨_, rfl⟩
            subst hw8
            obtain ⟨dp, ob, A', c', g1, g2, g3, g4, g5, g6, g7, g8, g9, g10⟩ := hS
            have hzr := g4.size
            have hqn := spO_ne g1 g6
            obtain ⟨l1, l2, _, l4⟩ := g1.lt
            have hCl : ∀ j, ChL sp dp ob j → j < w8.heap.size ∧ w.heap.size ≤ j := fun j hj => by
              rcases hj with rfl | rfl | hj
              · exact ⟨l1, g2⟩
              · exact ⟨l2, g3⟩
              · exact ⟨(l4 j hj).1, (l4 j hj).2.2.2⟩
            have hgl := g6.lt
            obtain ⟨rn, hrn2⟩ : ∃ rn, stepR most r x = rn := ⟨_, rfl⟩
            obtain ⟨rl, hrl⟩ : ∃ rl, r.ws.length = rl := ⟨_, rfl⟩
            have hSC := stepR_stepC most r x
            have hRW := fun (W : World) (hb : Below w8.heap.size w8 W) => refWriteL_any A' Ai rl c' m ci most r x W ((g7.kept (Kept.below hb (fun b h => h.1))).mono (fun b h => Nat.lt_of_lt_of_le h.1 hb.size)) (hli.out W (g4.trans (hb.mono hzr))) hrl.symm hm'.out.symm (by omega) (by have := hm'.out; omega) h2 g8
            have hrlen : rn.2.line.length ≤ most + 4 := by rw [← hrn2]; exact stepR_len g8 x
            have hrws : rn.2.ws.length ≤ 3 := by rw [← hrn2]; exact run_three _
            have hrok : (absC most rn.2).ok most := by
              have := stepC_ok g10 x
              rw [hSC, hrn2] at this
              exact this
            have hrcnt : rn.1.length ≤ 6000 := by
              have h3 := stepC_count (most := most) (absC most r) x
              rw [hSC, hrn2] at h3
              have h4 : (absC most r).ws = r.ws := rfl
              rw [h4] at h3
              have := hm'.out
              simp only at h3
              omega
            have hrgood : ∀ y ∈ rn.1, y.1.length ≤ 1000000 := by
              intro y hy
              have := (stepC_good g10 x y (by rw [hSC, hrn2]; exact hy)).2.2.1
              omega
            unfold RefWL at hRW
            rw [hrn2] at hRW hSC
            rw [hrl] at g6
            have hSW : Hid (∀ W, Below w8.heap.size w8 W → (W.cell? ⟨q, 0, none⟩ = some (.slice A' rl c') ∧ W.cell? ⟨q, 1, none⟩ = some (.int .i64 (most : Int)) ∧ W.cell? ⟨q, 2, none⟩ = some (.string ⟨r.line.toArray⟩) ∧ W.cell? ⟨q, 3, none⟩ = some (.bool r.any) ∧ W.cell? ⟨q, 4, none⟩ = some (.bool r.half)) ∧ W.cell? ⟨b, o + k, none⟩ = some (.slice Ai m ci)) := Lib.hid (fun W hb => by
              have hk := g6.below hb g6.lt
              exact ⟨⟨hk.cell 0, hk.cell 1, hk.cell 2, hk.cell 3, hk.cell 4⟩, hlc'.out W (g4.trans (hb.mono hzr))⟩)
            have hRW' := Lib.hid hRW
            have g1' := Lib.hid g1
            have g6' := Lib.hid g6
            have g4' := Lib.hid g4
            have hqn' := Lib.hid hqn
            have hCl' := Lib.hid hCl
            have hSC' := Lib.hid hSC
            have g10' := Lib.hid g10
            have hbd := Lib.hid ((Below.refl w8.heap.size w8).drew)
            have hrgood' := Lib.hid hrgood
            have hbda := Lib.hid (((Below.refl w8.heap.size w8).alloc (Nat.le_refl _) (.cells #[.slice none 0 0, .int .i64 0, .string ⟨#[]⟩, .bool false, .bool false] 76)).drew)
            have hnz := Lib.hid ((Has.new w8 76 #[.slice none 0 0, .int .i64 0, .string ⟨#[]⟩, .bool false, .bool false]).drew)
            have hrok' := Lib.hid hrok
            obtain ⟨ql, hql⟩ : ∃ ql, rn.2.ws.length = ql := ⟨_, rfl⟩
            have hql' := Lib.hid hql
            obtain ⟨kl, hkl⟩ : ∃ kl, rn.1.length = kl := ⟨_, rfl⟩
            have hkl' := Lib.hid hkl
            rw [hkl] at hrcnt
            rw [hql] at hrws
            clear hRW g1 g4 g6 g7 hqn hCl hSC g10 l4 hrn2 hrl hrgood hrok hql hkl
            go_upto_region 20 with (fail)
            go_cut [13, 14] from 45 to 118 (fun s13 s14 wx => ∃ (zb : Nat) (A2 : Option Addr) (c2 : Nat) (A3 : Option Addr) (c3 : Nat), s13 = .pointer (some ⟨zb, 0, none⟩) ∧ s14 = .slice A3 kl c3 ∧ w8.heap.size ≤ zb ∧ Has wx zb 76 #[.slice A2 ql c2, .int .i64 (most : Int), .string ⟨rn.2.line.toArray⟩, .bool rn.2.any, .bool rn.2.half] ∧ Rd wx (fun b => w8.heap.size ≤ b ∧ b < wx.heap.size) A2 rn.2.ws ∧ LnAt wx A3 rn.1 ∧ Below w8.heap.size w8 wx)
            case first =>
              go_region_held3 (fun W => (W.cell? ⟨q, 0, none⟩ = some (.slice A' rl c') ∧ W.cell? ⟨q, 1, none⟩ = some (.int .i64 (most : Int)) ∧ W.cell? ⟨q, 2, none⟩ = some (.string ⟨r.line.toArray⟩) ∧ W.cell? ⟨q, 3, none⟩ = some (.bool r.any) ∧ W.cell? ⟨q, 4, none⟩ = some (.bool r.half)) ∧ W.cell? ⟨b, o + k, none⟩ = some (.slice Ai m ci))
                (first
                | with_reducible exact hSW.out _ hbd.out
                | with_reducible exact hSW.out _ hb2.out
                | with_reducible exact hSW.out _ (hb2v.out _)
                | with_reducible exact hSW.out _ hbda.out
                | with_reducible exact hSW.out _ hb3.out
                | with_reducible exact hSW.out _ (hb3s.out _ _ _ _ _)
                | fail)
                (first
                | (go_at_call 40; (with_reducible refine Calls.mono (hRW'.out _ hbd.out) ?_); rintro e w2 ⟨A2, c2, v2, rfl, hr2, hL2, hb2d⟩; obtain ⟨A3, c3, rfl, hat2⟩ := hL2.at; rw [hql'.out, hkl'.out]; have hb2 := Lib.hid (hbd.out.trans hb2d); have hb2v := Lib.hid (fun o => hb2.out.alloc hb2.out.size o); have hr2' := Lib.hid hr2; have hat2' := Lib.hid hat2; clear hb2d hr2 hL2 hat2)
                | (go_at_call 40; (with_reducible refine Calls.mono (hRW'.out _ hbda.out) ?_); rintro e w3 ⟨A2, c2, v3, rfl, hr3, hL3, hb3d⟩; obtain ⟨A3, c3, rfl, hat3⟩ := hL3.at; rw [hql'.out, hkl'.out]; have hb3 := Lib.hid (hbda.out.trans (hb3d.mono hbda.out.size)); have hb3s := Lib.hid (fun (x1 x2 x3 x4 x5 : Value) => hb3.out.trans ((chg_set5 w3 w8.heap.size x1 x2 x3 x4 x5).below (fun j (hj : j = w8.heap.size) => by omega) hb3.out.size)); have hn3 := hnz.out.below hb3d hnz.out.lt; have y0 := hn3.cell 0; have y1 := hn3.cell 1; have y2 := hn3.cell 2; have y3 := hn3.cell 3; have y4 := hn3.cell 4; have q0 := hn3.free 0; have q1 := hn3.free 1; have q2 := hn3.free 2; have q3 := hn3.free 3; have q4 := hn3.free 4; have hn3' := Lib.hid hn3; have hr3' := Lib.hid hr3; have hat3' := Lib.hid hat3; clear hb3d hr3 hL3 hat3 hn3)
                | fail)
              · go_wp2_with fail
                go_meet
                case rel =>
                  have hz := hb2.out.size
                  have hal : Below w2.heap.size w2 (w2.alloc (.cells #[.slice A2 ql c2, .int .i64 (most : Int), .string ⟨rn.2.line.toArray⟩, .bool rn.2.any, .bool rn.2.half] 76)) := (Below.refl _ _).alloc (Nat.le_refl _) _
                  refine ⟨w2.heap.size, A2, c2, A3, c3, rfl, rfl, hz, Has.new w2 _ _, (hr2'.out.kept (Kept.below hal (fun j hj => hj.2))).mono (fun j hj => ⟨?_, ?_⟩), hat2'.out.below hal, hb2v.out _⟩
                  · have h : w8.heap.size ≤ j := hj.1
                    exact h
                  · have h := hj.2
                    rw [World.size_alloc]; omega
              · go_wp2_with fail
                go_meet
                case rel =>
                  have hz := hb3.out.size
                  refine ⟨w8.heap.size, A2, c2, A3, c3, rfl, rfl, Nat.le_refl _, has_set5 hn3'.out _ _ _ _ _, (hr3'.out.kept (fun j hj => set5_other w3 w8.heap.size _ _ _ _ _ ?_)).mono (fun j hj => ⟨?_, ?_⟩), hat3'.out.other (fun g cs hh => set5_other w3 w8.heap.size _ _ _ _ _ (hh.apart hn3'.out (by decide))), hb3s.out _ _ _ _ _⟩
                  · have h1 : (w8.alloc (.cells #[.slice none 0 0, .int .i64 0, .string ⟨#[]⟩, .bool false, .bool false] 76)).heap.size ≤ j := hj.1
                    rw [World.size_alloc] at h1
                    omega
                  · have h1 : (w8.alloc (.cells #[.slice none 0 0, .int .i64 0, .string ⟨#[]⟩, .bool false, .bool false] 76)).heap.size ≤ j := hj.1
                    rw [World.size_alloc] at h1
                    omega
                  · have h1 := hj.2
                    simp
                    omega
            case rest =>
              obtain ⟨zb, A2, c2, A3, c3, rfl, rfl, hzb, hz2, hr2, hat2, hbx⟩ := hcut
              have hB9 := g4'.out.trans (hbx.mono hzr)
              have hbxs := hbx.size
              have hzl := hz2.lt
              have e1 := hlc'.out wc hB9
              have y0 := hz2.cell 0
              have y1 := hz2.cell 1
              have y2 := hz2.cell 2
              have y3 := hz2.cell 3
              have y4 := hz2.cell 4
              have hwd := writeL_any sp dp most w.heap.size ob _ x Ai m ci wc (g1'.out.below hbx) g10'.out h1 h2 hm'.out.symm hxc1 hxc2 (by omega) ((hri'.out.kept (Kept.below hB9 (fun _ h => h))).mono (fun j hj => ⟨by have hj : j < w.heap.size := hj; omega, fun h => by have hj : j < w.heap.size := hj; have := (hCl'.out _ h).2; omega⟩)) (hT'.out.below hB9) (hE'.out.below hB9) (fun h => by have := (hCl'.out _ h).2; omega) (fun h => by have := (hCl'.out _ h).2; omega) t2 (by omega)
              unfold WroteL at hwd
              rw [hSC'.out] at hwd
              have hCz : ¬ ChL sp dp ob zb := fun h => by have := (hCl'.out _ h).1; omega
              have hwd' := Lib.hid hwd
              have hz2' := Lib.hid hz2
              have hr2' := Lib.hid hr2
              have hat2' := Lib.hid hat2
              have hbx' := Lib.hid hbx
              have hB9' := Lib.hid hB9
              have hCz' := Lib.hid hCz
              have hg1c := Lib.hid (g1'.out.below hbx)
              have hq9 := Lib.hid (g6'.out.below hbx g6'.out.lt)
              clear hwd hz2 hr2 hat2 hbx hB9 hCz hRW' hSW hbd hbda hnz
              go_upto_region 23 with (first
                | (go_at_call 39; (with_reducible refine Calls.mono hwd'.out ?_); rintro e w4 ⟨v4, ob4, rfl, hL4, hs4, ho4, hC4⟩; obtain ⟨A5, c5, rfl, hat5⟩ := hL4.at; simp only; rw [hkl'.out]; have kz4 := hC4.has hCz'.out hz2'.out; have kq4 := hC4.has hqn'.out hq9.out; have x0 := kz4.cell 0; have x1 := kz4.cell 1; have x2 := kz4.cell 2; have x3 := kz4.cell 3; have x4 := kz4.cell 4; have p0 := kq4.cell 0; have p1 := kq4.cell 1; have p2 := kq4.cell 2; have p3 := kq4.cell 3; have p4 := kq4.cell 4; have q0 := kq4.free 0; have q1 := kq4.free 1; have q2 := kq4.free 2; have q3 := kq4.free 3; have q4 := kq4.free 4; have kq4' := Lib.hid kq4; have hat5' := Lib.hid hat5; have hs4' := Lib.hid hs4; have ho4' := Lib.hid ho4; have hC4' := Lib.hid hC4; clear kz4 kq4 hat5 hs4 ho4 hC4 hL4)
                | fail)
              have hz4 := hC4'.out.size
              have hSt : StL w q most sp rn.2 (((((w4.setCell ⟨q, 0, none⟩ (.slice A2 ql c2)).setCell ⟨q, 1, none⟩ (.int .i64 (most : Int))).setCell ⟨q, 2, none⟩ (.string ⟨rn.2.line.toArray⟩)).setCell ⟨q, 3, none⟩ (.bool rn.2.any)).setCell ⟨q, 4, none⟩ (.bool rn.2.half)) := by
                have hcs := chg_set5 w4 q (.slice A2 ql c2) (.int .i64 (most : Int)) (.string ⟨rn.2.line.toArray⟩) (.bool rn.2.any) (.bool rn.2.half)
                have hqn4 := spO_ne hs4'.out kq4'.out
                have hB4 : Below w.heap.size w w4 := hB9'.out.trans (hC4'.out.below (fun j hj => (hCl'.out j hj).2) (by omega))
                refine ⟨dp, ob4, A2, c2, hs4'.out.chg hcs (fun h => hqn4 (.inl h.symm)) (fun h => hqn4 (.inr (.inl h.symm))) (fun j hj h => hqn4 (.inr (.inr (by rw [← h]; exact hj)))), g2, g3, hB4.trans (hcs.below (fun j (hj : j = q) => by omega) (by omega)), g5, ?_, ?_, hrlen, by rw [hql'.out]; exact hrws, hrok'.out⟩
                · rw [hql'.out]; exact has_set5 kq4'.out _ _ _ _ _
                · refine ((hr2'.out.kept (fun j hj => hC4'.out.block j hj.2 (fun h => by have := (hCl'.out _ h).1; have := hj.1; omega))).kept (fun j hj => set5_other w4 q _ _ _ _ _ (by have := hj.1; omega))).mono (fun j hj => ?_)
                  have hj1 := hj.1
                  have hj2 := hj.2
                  refine ⟨by simp; omega, by omega, ?_⟩
                  rintro (h | h | h)
                  · omega
                  · omega
                  · rcases ho4'.out j h with h | h
                    · have := (hCl'.out j (.inr (.inr h))).1; omega
                    · omega
              have hla : LnAt (((((w4.setCell ⟨q, 0, none⟩ (.slice A2 ql c2)).setCell ⟨q, 1, none⟩ (.int .i64 (most : Int))).setCell ⟨q, 2, none⟩ (.string ⟨rn.2.line.toArray⟩)).setCell ⟨q, 3, none⟩ (.bool rn.2.any)).setCell ⟨q, 4, none⟩ (.bool rn.2.half)) A3 rn.1 :=
                (hat2'.out.chg hg1c.out hC4'.out).other (fun g cs hh => set5_other w4 q _ _ _ _ _ (hh.apart kq4'.out (by decide)))
              have hlb : LnAt (((((w4.setCell ⟨q, 0, none⟩ (.slice A2 ql c2)).setCell ⟨q, 1, none⟩ (.int .i64 (most : Int))).setCell ⟨q, 2, none⟩ (.string ⟨rn.2.line.toArray⟩)).setCell ⟨q, 3, none⟩ (.bool rn.2.any)).setCell ⟨q, 4, none⟩ (.bool rn.2.half)) A5 rn.1 :=
                hat5'.out.other (fun g cs hh => set5_other w4 q _ _ _ _ _ (hh.apart kq4'.out (by decide)))
              clear x0 x1 x2 x3 x4 p0 p1 p2 p3 p4 q0 q1 q2 q3 q4 y0 y1 y2 y3 y4 e1
              obtain ⟨w6, hw6⟩ : ∃ w6, (((((w4.setCell ⟨q, 0, none⟩ (.slice A2 ql c2)).setCell ⟨q, 1, none⟩ (.int .i64 (most : Int))).setCell ⟨q, 2, none⟩ (.string ⟨rn.2.line.toArray⟩)).setCell ⟨q, 3, none⟩ (.bool rn.2.any)).setCell ⟨q, 4, none⟩ (.bool rn.2.half)) = w6 := ⟨_, rfl⟩
              rw [hw6] at hSt hla hlb ⊢
              clear hw6
              have hsm := Lib.hid (sameLn_yes A3 A5 rn.1 kl c3 c5 w6.drew hkl'.out.symm (hla.other (fun _ _ _ => rfl)) (hlb.other (fun _ _ _ => rfl)) hrgood'.out (by omega))
              have hSt' := Lib.hid hSt
              obtain ⟨dq, oq, Aq, cq, s1, s2, s3, s4, s5, s6, s7, s8, s9, s10⟩ := hSt
              have hSW : Hid (∀ W, Below w6.heap.size w6 W → (W.cell? ⟨q, 0, none⟩ = some (.slice Aq ql cq) ∧ W.cell? ⟨q, 1, none⟩ = some (.int .i64 (most : Int)) ∧ W.cell? ⟨q, 2, none⟩ = some (.string ⟨rn.2.line.toArray⟩) ∧ W.cell? ⟨q, 3, none⟩ = some (.bool rn.2.any) ∧ W.cell? ⟨q, 4, none⟩ = some (.bool rn.2.half))) := Lib.hid (fun W hb => by
                have hk := s6.below hb s6.lt
                rw [hql'.out] at hk
                exact ⟨hk.cell 0, hk.cell 1, hk.cell 2, hk.cell 3, hk.cell 4⟩)
              have hwt := fun (W : World) (hb : Below w6.heap.size w6 W) => waitsL_any w.heap.size sp dq most oq _ W (s1.below hb) h1
              have hwt2 : Hid (∀ (W : World), Below w6.heap.size w6 W → Calls Tryd.prog 41 #[.pointer (some ⟨sp, 0, none⟩)] W fun e w' => e = .returned (.agg #[.string ⟨(oneL most rn.2.line).1.toArray⟩, .bool (oneL most rn.2.line).2]) ∧ Below W.heap.size W w') := Lib.hid hwt
              have hrwt := Lib.hid (fun (W : World) => refWaitsL_any Aq ql cq most rn.2.line rn.2.any rn.2.half W (by omega) h2)
              have hol1 : (oneL most rn.2.line).1.length ≤ 1000000 := by unfold oneL; split <;> simp; omega
              obtain ⟨ol, hol⟩ : ∃ ol, oneL most rn.2.line = ol := ⟨_, rfl⟩
              rw [hol] at hwt2 hrwt hol1
              have heq := fun w => line_equal ol.1 ol.1 ol.2 ol.2 hol1 hol1 w
              rw [decide_eq_true rfl] at heq
              have hbd := Lib.hid ((Below.refl w6.heap.size w6).drew)
              clear s1 s2 s3 s4 s5 s6 s7 s8 s9 s10 hwt hla hlb hol hol1
              go_region_held3 (fun W => W.cell? ⟨q, 0, none⟩ = some (.slice Aq ql cq) ∧ W.cell? ⟨q, 1, none⟩ = some (.int .i64 (most : Int)) ∧ W.cell? ⟨q, 2, none⟩ = some (.string ⟨rn.2.line.toArray⟩) ∧ W.cell? ⟨q, 3, none⟩ = some (.bool rn.2.any) ∧ W.cell? ⟨q, 4, none⟩ = some (.bool rn.2.half))
                (first
                | with_reducible exact hSW.out _ hbd.out
                | with_reducible exact hSW.out _ hbA.out
                | with_reducible exact hSW.out _ hbB.out
                | with_reducible exact hSW.out _ hbC.out
                | fail)
                (first
                | (go_at_call 33; (with_reducible refine Calls.mono hsm.out ?_); rintro e wA ⟨rfl, hbAd⟩; have hbA := Lib.hid (hbd.out.trans hbAd); clear hbAd)
                | (go_at_call 34; (with_reducible refine Calls.mono (numLn_any _ _) ?_); rintro e w' ⟨rfl, rfl⟩)
                | (go_at_call 41; (with_reducible refine Calls.mono (hwt2.out _ hbA.out) ?_); rintro e wB ⟨rfl, hbBd⟩; have hbB := Lib.hid (hbA.out.trans (hbBd.mono hbA.out.size)); clear hbBd)
                | (go_at_call 42; (with_reducible refine Calls.mono (hrwt.out _) ?_); rintro e wC ⟨rfl, hbCd⟩; have hbC := Lib.hid (hbB.out.trans (hbCd.mono hbB.out.size)); clear hbCd)
                | fail)
              all_goals
                go_wp2
                exact ⟨⟨k + 1, sp, rn.2, rfl, by go_num, by omega, hSt'.out.below hbC.out⟩, by simp [intOf]; omega⟩
    · obtain rfl : k = n := by omega
      clear hS hS'
      have hB0 := Lib.hid hBr
      have heq := fun w => line_equal [] [] false false (by decide) (by decide) w
      rw [decide_eq_true rfl] at heq
      have hwk := Lib.hid (fun (W : World) (hb : Below wr.heap.size wr W) => worksL_any W (hT'.out.below (hB0.out.trans (hb.mono hzr))) (hE'.out.below (hB0.out.trans (hb.mono hzr))))
      have hb0 := Lib.hid (Below.refl wr.heap.size wr)
      cases z with
      | false =>
        have hwn := Lib.hid (writeL_none none wr none 0 0 (.inl rfl))
        have hen := Lib.hid (fun (W : World) => resetL_none none W (.inl rfl))
        have hwa := Lib.hid (fun (W : World) => waitsL_none none W (.inl rfl))
        have hco := Lib.hid (fun (W : World) => copyL_none none W (.inl rfl))
        go_wp2_with (first
          | (go_at_call 39; (with_reducible refine Calls.mono hwn.out ?_); rintro e w2 ⟨rfl, hb2⟩; have hb2' := Lib.hid hb2; clear hb2)
          | (go_at_call 37; (with_reducible refine Calls.mono (hen.out _) ?_); rintro e w3 ⟨rfl, rfl⟩)
          | (go_at_call 34; (with_reducible refine Calls.mono (numLn_any _ _) ?_); rintro e w4 ⟨rfl, rfl⟩)
          | (go_at_call 41; (with_reducible refine Calls.mono (hwa.out _) ?_); rintro e w5 ⟨rfl, hb5⟩; have hb5' := Lib.hid (hb2'.out.trans (hb5.mono hb2'.out.size)); clear hb5)
          | (go_at_call 38; (with_reducible refine Calls.mono (hco.out _) ?_); rintro e w6 ⟨rfl, rfl⟩)
          | (go_at_call 29; (with_reducible refine Calls.mono (hwk.out _ hb5'.out) ?_); rintro e w7 ⟨rfl, hb7⟩))
        go_ret
        exact ⟨rfl, hB0.out.trans ((hb5'.out.trans (hb7.mono hb5'.out.size)).mono hzr)⟩
      | true =>
        have k1 := Has.new wr 90 #[.pointer none, .bool false, .slice none 0 0, .bool false, .int .i64 0, .bool false]
        have hb1 := (Below.refl wr.heap.size wr).alloc (Nat.le_refl _) (.cells #[.pointer none, .bool false, .slice none 0 0, .bool false, .int .i64 0, .bool false] 90)
        obtain ⟨w1, hw1⟩ : ∃ w1, wr.alloc (.cells #[.pointer none, .bool false, .slice none 0 0, .bool false, .int .i64 0, .bool false] 90) = w1 := ⟨_, rfl⟩
        have hw1' := Lib.hid hw1
        rw [hw1] at k1 hb1
        clear hw1
        have hno : ∀ W, Below w1.heap.size w1 W → NoS W (some ⟨wr.heap.size, 0, none⟩) := fun W hb => .inr ⟨wr.heap.size, rfl, (k1.below hb k1.lt).cell 4⟩
        have hwn := Lib.hid (writeL_none (some ⟨wr.heap.size, 0, none⟩) w1 none 0 0 (hno _ (Below.refl _ _)))
        have hen := Lib.hid (fun (W : World) (hb : Below w1.heap.size w1 W) => resetL_none _ W (hno W hb))
        have hwa := Lib.hid (fun (W : World) (hb : Below w1.heap.size w1 W) => waitsL_none _ W (hno W hb))
        have hco := Lib.hid (fun (W : World) (hb : Below w1.heap.size w1 W) => copyL_none _ W (hno W hb))
        have hb1' := Lib.hid hb1
        clear hno k1 hb1
        go_upto_region 28 with (fail)
        rw [hw1'.out]
        go_wp2_with (first
          | (go_at_call 39; (with_reducible refine Calls.mono hwn.out ?_); rintro e w2 ⟨rfl, hb2⟩; have hb2' := Lib.hid hb2; clear hb2)
          | (go_at_call 37; (with_reducible refine Calls.mono (hen.out _ hb2'.out) ?_); rintro e w3 ⟨rfl, rfl⟩)
          | (go_at_call 34; (with_reducible refine Calls.mono (numLn_any _ _) ?_); rintro e w4 ⟨rfl, rfl⟩)
          | (go_at_call 41; (with_reducible refine Calls.mono (hwa.out _ hb2'.out) ?_); rintro e w5 ⟨rfl, hb5⟩; have hb5' := Lib.hid (hb2'.out.trans (hb5.mono hb2'.out.size)); have hb6' := Lib.hid (hb1'.out.trans (hb5'.out.mono hb1'.out.size)); clear hb5)
          | (go_at_call 38; (with_reducible refine Calls.mono (hco.out _ hb5'.out) ?_); rintro e w6 ⟨rfl, rfl⟩)
          | (go_at_call 29; (with_reducible refine Calls.mono (hwk.out _ hb6'.out) ?_); rintro e w7 ⟨rfl, hb7⟩))
        go_ret
        exact ⟨rfl, hB0.out.trans ((hb6'.out.trans (hb7.mono hb6'.out.size)).mono hzr)⟩
set_option maxRecDepth 100000 in
set_option maxHeartbeats 4000000 in
theorem lawWriteL_no (z0 : Int) (A : Option Addr) (n c : Nat) (z : Bool) (w : World) (hT : Tab w) (hE : Ends w) (hl : n ≤ 30) (h : z0 < 1 ∨ 65536 < z0) :
    Calls Tryd.prog 9 #[.int .i64 z0, .slice A n c, .bool z] w fun e w' => e = .returned (.bool true) ∧ Below w.heap.size w w' := by
  have hT' := Lib.hid hT
  have hE' := Lib.hid hE
  have hnw := Lib.hid (newL_no z0 w h)
  have hrn := Lib.hid (fun W => refNewL_no z0 W h)
  clear hT hE h
  go_enter Tryd.func9, Tryd.ntmps9
  go_upto_region 5 with (first
    | (go_at_call 35; (with_reducible refine Calls.mono hnw.out ?_); rintro e w1 ⟨rfl, rfl⟩)
    | (go_at_call 36; (with_reducible refine Calls.mono (hrn.out _) ?_); rintro e w2 ⟨rfl, hb2⟩; have hb2' := Lib.hid hb2; clear hb2))
  have hb3 : Below w.heap.size w (w2.alloc (.cells #[.slice none 0 0, .int .i64 0, .string ⟨#[]⟩, .bool false, .bool false] 76)) := hb2'.out.alloc hb2'.out.size _
  obtain ⟨w3, hw3⟩ : ∃ w3, w2.alloc (.cells #[.slice none 0 0, .int .i64 0, .string ⟨#[]⟩, .bool false, .bool false] 76) = w3 := ⟨_, rfl⟩
  rw [hw3] at hb3 ⊢
  have hb3' := Lib.hid hb3
  clear hw3 hb3
  go_wp2_with (go_at_call 34; (with_reducible refine Calls.mono (numLn_any _ _) ?_); rintro e w' ⟨rfl, rfl⟩)
  go_loopw [11] (fun v11 W => v11 = .int .i64 0 ∧ w3 = W) (fun _ _ => 0)
  case atStart => exact ⟨rfl, rfl⟩
  case round =>
    obtain ⟨rfl, hw⟩ := hrel
    have hBr : Below w.heap.size w wr := by rw [← hw]; exact hb3'.out
    have hzr := hBr.size
    clear hw
    by_cases h0n : (0 : Int) < (n : Int)
    · skip
      have hB0 := Lib.hid hBr
      have heq := fun w => line_equal [] [] false false (by decide) (by decide) w
      rw [decide_eq_true rfl] at heq
      have hwk := Lib.hid (fun (W : World) (hb : Below wr.heap.size wr W) => worksL_any W (hT'.out.below (hB0.out.trans (hb.mono hzr))) (hE'.out.below (hB0.out.trans (hb.mono hzr))))
      have hb0 := Lib.hid (Below.refl wr.heap.size wr)
      cases z with
      | false =>
        have hwn := Lib.hid (writeL_none none wr none 0 0 (.inl rfl))
        have hen := Lib.hid (fun (W : World) => resetL_none none W (.inl rfl))
        have hwa := Lib.hid (fun (W : World) => waitsL_none none W (.inl rfl))
        have hco := Lib.hid (fun (W : World) => copyL_none none W (.inl rfl))
        go_wp2_with (first
          | (go_at_call 39; (with_reducible refine Calls.mono hwn.out ?_); rintro e w2 ⟨rfl, hb2⟩; have hb2' := Lib.hid hb2; clear hb2)
          | (go_at_call 37; (with_reducible refine Calls.mono (hen.out _) ?_); rintro e w3 ⟨rfl, rfl⟩)
          | (go_at_call 34; (with_reducible refine Calls.mono (numLn_any _ _) ?_); rintro e w4 ⟨rfl, rfl⟩)
          | (go_at_call 41; (with_reducible refine Calls.mono (hwa.out _) ?_); rintro e w5 ⟨rfl, hb5⟩; have hb5' := Lib.hid (hb2'.out.trans (hb5.mono hb2'.out.size)); clear hb5)
          | (go_at_call 38; (with_reducible refine Calls.mono (hco.out _) ?_); rintro e w6 ⟨rfl, rfl⟩)
          | (go_at_call 29; (with_reducible refine Calls.mono (hwk.out _ hb5'.out) ?_); rintro e w7 ⟨rfl, hb7⟩))
        go_ret
        exact ⟨rfl, hB0.out.trans ((hb5'.out.trans (hb7.mono hb5'.out.size)).mono hzr)⟩
      | true =>
        have k1 := Has.new wr 90 #[.pointer none, .bool false, .slice none 0 0, .bool false, .int .i64 0, .bool false]
        have hb1 := (Below.refl wr.heap.size wr).alloc (Nat.le_refl _) (.cells #[.pointer none, .bool false, .slice none 0 0, .bool false, .int .i64 0, .bool false] 90)
        obtain ⟨w1, hw1⟩ : ∃ w1, wr.alloc (.cells #[.pointer none, .bool false, .slice none 0 0, .bool false, .int .i64 0, .bool false] 90) = w1 := ⟨_, rfl⟩
        have hw1' := Lib.hid hw1
        rw [hw1] at k1 hb1
        clear hw1
        have hno : ∀ W, Below w1.heap.size w1 W → NoS W (some ⟨wr.heap.size, 0, none⟩) := fun W hb => .inr ⟨wr.heap.size, rfl, (k1.below hb k1.lt).cell 4⟩
        have hwn := Lib.hid (writeL_none (some ⟨wr.heap.size, 0, none⟩) w1 none 0 0 (hno _ (Below.refl _ _)))
        have hen := Lib.hid (fun (W : World) (hb : Below w1.heap.size w1 W) => resetL_none _ W (hno W hb))
        have hwa := Lib.hid (fun (W : World) (hb : Below w1.heap.size w1 W) => waitsL_none _ W (hno W hb))
        have hco := Lib.hid (fun (W : World) (hb : Below w1.heap.size w1 W) => copyL_none _ W (hno W hb))
        have hb1' := Lib.hid hb1
        clear hno k1 hb1
        go_upto_region 28 with (fail)
        rw [hw1'.out]
        go_wp2_with (first
          | (go_at_call 39; (with_reducible refine Calls.mono hwn.out ?_); rintro e w2 ⟨rfl, hb2⟩; have hb2' := Lib.hid hb2; clear hb2)
          | (go_at_call 37; (with_reducible refine Calls.mono (hen.out _ hb2'.out) ?_); rintro e w3 ⟨rfl, rfl⟩)
          | (go_at_call 34; (with_reducible refine Calls.mono (numLn_any _ _) ?_); rintro e w4 ⟨rfl, rfl⟩)
          | (go_at_call 41; (with_reducible refine Calls.mono (hwa.out _ hb2'.out) ?_); rintro e w5 ⟨rfl, hb5⟩; have hb5' := Lib.hid (hb2'.out.trans (hb5.mono hb2'.out.size)); have hb6' := Lib.hid (hb1'.out.trans (hb5'.out.mono hb1'.out.size)); clear hb5)
          | (go_at_call 38; (with_reducible refine Calls.mono (hco.out _ hb5'.out) ?_); rintro e w6 ⟨rfl, rfl⟩)
          | (go_at_call 29; (with_reducible refine Calls.mono (hwk.out _ hb6'.out) ?_); rintro e w7 ⟨rfl, hb7⟩))
        go_ret
        exact ⟨rfl, hB0.out.trans ((hb6'.out.trans (hb7.mono hb6'.out.size)).mono hzr)⟩
    · skip
      have hB0 := Lib.hid hBr
      have heq := fun w => line_equal [] [] false false (by decide) (by decide) w
      rw [decide_eq_true rfl] at heq
      have hwk := Lib.hid (fun (W : World) (hb : Below wr.heap.size wr W) => worksL_any W (hT'.out.below (hB0.out.trans (hb.mono hzr))) (hE'.out.below (hB0.out.trans (hb.mono hzr))))
      have hb0 := Lib.hid (Below.refl wr.heap.size wr)
      cases z with
      | false =>
        have hwn := Lib.hid (writeL_none none wr none 0 0 (.inl rfl))
        have hen := Lib.hid (fun (W : World) => resetL_none none W (.inl rfl))
        have hwa := Lib.hid (fun (W : World) => waitsL_none none W (.inl rfl))
        have hco := Lib.hid (fun (W : World) => copyL_none none W (.inl rfl))
        go_wp2_with (first
          | (go_at_call 39; (with_reducible refine Calls.mono hwn.out ?_); rintro e w2 ⟨rfl, hb2⟩; have hb2' := Lib.hid hb2; clear hb2)
          | (go_at_call 37; (with_reducible refine Calls.mono (hen.out _) ?_); rintro e w3 ⟨rfl, rfl⟩)
          | (go_at_call 34; (with_reducible refine Calls.mono (numLn_any _ _) ?_); rintro e w4 ⟨rfl, rfl⟩)
          | (go_at_call 41; (with_reducible refine Calls.mono (hwa.out _) ?_); rintro e w5 ⟨rfl, hb5⟩; have hb5' := Lib.hid (hb2'.out.trans (hb5.mono hb2'.out.size)); clear hb5)
          | (go_at_call 38; (with_reducible refine Calls.mono (hco.out _) ?_); rintro e w6 ⟨rfl, rfl⟩)
          | (go_at_call 29; (with_reducible refine Calls.mono (hwk.out _ hb5'.out) ?_); rintro e w7 ⟨rfl, hb7⟩))
        go_ret
        exact ⟨rfl, hB0.out.trans ((hb5'.out.trans (hb7.mono hb5'.out.size)).mono hzr)⟩
      | true =>
        have k1 := Has.new wr 90 #[.pointer none, .bool false, .slice none 0 0, .bool false, .int .i64 0, .bool false]
        have hb1 := (Below.refl wr.heap.size wr).alloc (Nat.le_refl _) (.cells #[.pointer none, .bool false, .slice none 0 0, .bool false, .int .i64 0, .bool false] 90)
        obtain ⟨w1, hw1⟩ : ∃ w1, wr.alloc (.cells #[.pointer none, .bool false, .slice none 0 0, .bool false, .int .i64 0, .bool false] 90) = w1 := ⟨_, rfl⟩
        have hw1' := Lib.hid hw1
        rw [hw1] at k1 hb1
        clear hw1
        have hno : ∀ W, Below w1.heap.size w1 W → NoS W (some ⟨wr.heap.size, 0, none⟩) := fun W hb => .inr ⟨wr.heap.size, rfl, (k1.below hb k1.lt).cell 4⟩
        have hwn := Lib.hid (writeL_none (some ⟨wr.heap.size, 0, none⟩) w1 none 0 0 (hno _ (Below.refl _ _)))
        have hen := Lib.hid (fun (W : World) (hb : Below w1.heap.size w1 W) => resetL_none _ W (hno W hb))
        have hwa := Lib.hid (fun (W : World) (hb : Below w1.heap.size w1 W) => waitsL_none _ W (hno W hb))
        have hco := Lib.hid (fun (W : World) (hb : Below w1.heap.size w1 W) => copyL_none _ W (hno W hb))
        have hb1' := Lib.hid hb1
        clear hno k1 hb1
        go_upto_region 28 with (fail)
        rw [hw1'.out]
        go_wp2_with (first
          | (go_at_call 39; (with_reducible refine Calls.mono hwn.out ?_); rintro e w2 ⟨rfl, hb2⟩; have hb2' := Lib.hid hb2; clear hb2)
          | (go_at_call 37; (with_reducible refine Calls.mono (hen.out _ hb2'.out) ?_); rintro e w3 ⟨rfl, rfl⟩)
          | (go_at_call 34; (with_reducible refine Calls.mono (numLn_any _ _) ?_); rintro e w4 ⟨rfl, rfl⟩)
          | (go_at_call 41; (with_reducible refine Calls.mono (hwa.out _ hb2'.out) ?_); rintro e w5 ⟨rfl, hb5⟩; have hb5' := Lib.hid (hb2'.out.trans (hb5.mono hb2'.out.size)); have hb6' := Lib.hid (hb1'.out.trans (hb5'.out.mono hb1'.out.size)); clear hb5)
          | (go_at_call 38; (with_reducible refine Calls.mono (hco.out _ hb5'.out) ?_); rintro e w6 ⟨rfl, rfl⟩)
          | (go_at_call 29; (with_reducible refine Calls.mono (hwk.out _ hb6'.out) ?_); rintro e w7 ⟨rfl, hb7⟩))
        go_ret
        exact ⟨rfl, hB0.out.trans ((hb6'.out.trans (hb7.mono hb6'.out.size)).mono hzr)⟩
end Go.Proofs.YthdmmlaahjgijaaDoor
