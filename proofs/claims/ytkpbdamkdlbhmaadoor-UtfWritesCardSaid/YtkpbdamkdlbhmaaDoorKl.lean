import Derived.Test.YtkpbdamkdlbhmaaDoorKj
import Derived.Test.YtkpbdamkdlbhmaaDoorO
import Derived.Deep.CutRange
import Derived.Deep.RegionHeld3
import Derived.Deep.Cut
import Derived.BigQuiet
namespace Go.Proofs.YtkpbdamkdlbhmaaDoor
open Go.RowKit Go.Shelf

/-! ## The law of a decoder, piece by piece -/
/-- Pieces of bytes, each read somewhere. -/
def LL (W : World) (A : Option Addr) (xs : List (List UInt8)) : Prop :=
  0 < xs.length → ∃ b o, A = some ⟨b, o, none⟩ ∧ b < W.heap.size ∧ ∀ i x, xs[i]? = some x → ∃ Ai ci, W.cell? ⟨b, o + i, none⟩ = some (.slice Ai x.length ci) ∧ Rd W (· < W.heap.size) Ai x
theorem rd_below {W W' : World} {A : Option Addr} {l : List UInt8} (h : Rd W (· < W.heap.size) A l) {B : Nat} (hb : Below B W W') (hB : W.heap.size ≤ B) : Rd W' (· < W'.heap.size) A l :=
  (h.kept (Kept.below (hb.mono hB) (fun _ h => h))).mono (fun b (h : b < W.heap.size) => Nat.lt_of_lt_of_le h hb.size)
/-- How both decoders stand. -/
def StW (w : World) (q db : Nat) (ws : List UInt8) (W : World) : Prop :=
  Dec W db ws ∧ w.heap.size ≤ db ∧ db ≠ q ∧ Below w.heap.size w W ∧ ∃ A c, Has W q 43 #[.slice A ws.length c] ∧ Rd W (fun b => b < W.heap.size ∧ b ≠ q ∧ b ≠ db) A ws
theorem StW.q {w W : World} {q db : Nat} {ws : List UInt8} (h : StW w q db ws W) : w.heap.size ≤ db ∧ db < W.heap.size ∧ db ≠ q ∧ q < W.heap.size ∧ ws.length ≤ 3 ∧ w.heap.size ≤ W.heap.size := by
  obtain ⟨h1, h2, h3, h4, A, c, h5, _⟩ := h
  exact ⟨h2, h1.lt, h3, h5.lt, h1.len, h4.size⟩
theorem Bs.whole2 {W : World} {n0 : Nat} {v : Value} {l : List UInt8} (h : Bs W n0 v l) : ∃ A c, v = .slice A l.length c ∧ Rd W (fun b => n0 ≤ b ∧ b < W.heap.size) A l ∧
    (0 < l.length → ∃ g cs, A = some ⟨g, 0, none⟩ ∧ n0 ≤ g ∧ Has W g 5 cs ∧ ∀ j, j < l.length → ∃ u, cs[j]? = some (.int .u8 u)) := by
  have hh := h
  rcases h.2 with ⟨rfl, h0⟩ | ⟨g, cap, cur, rfl, hb, hg, _⟩
  · exact ⟨none, 0, by rw [h0], fun hl => by omega, fun hl => by omega⟩
  · have hcell := fun j u hu => World.ownsRow.cells (g := g) hh rfl j u hu
    refine ⟨_, cap, rfl, fun _ => ⟨_, rfl, ⟨hb, (Array.getElem?_eq_some_iff.1 hg).1⟩, hcell⟩, fun _ => ⟨g, cur, rfl, hb, hg, fun j hj => ⟨((l[j]'hj).toNat : Int), ?_⟩⟩⟩
    · have := hcell j _ (byts_at hj)
      rw [add_zero_, Nat.zero_add, Has.cell (t := 5) hg] at this
      exact this
/-- What lies while the piece that was handed over is turned, byte by byte. -/
def CkW (w : World) (q db n9 m : Nat) (Ac A2 : Option Addr) (c2 : Nat) (ws : List UInt8) (W : World) : Prop :=
  Dec W db ws ∧ Has W q 43 #[.slice A2 ws.length c2] ∧ Rd W (fun b => b < n9 ∧ b ≠ q ∧ b ≠ db) A2 ws ∧ Below w.heap.size w W ∧ n9 ≤ W.heap.size ∧
    (0 < m → ∃ g cs, Ac = some ⟨g, 0, none⟩ ∧ n9 ≤ g ∧ Has W g 5 cs ∧ ∀ j, j < m → ∃ u, cs[j]? = some (.int .u8 u))
theorem CkW.put {w W : World} {q db n9 m g j : Nat} {A2 : Option Addr} {c2 : Nat} {ws : List UInt8} (h : CkW w q db n9 m (some ⟨g, 0, none⟩) A2 c2 ws W) (hq : q < n9) (hd : db < n9) (hw : w.heap.size ≤ n9) (hj : j < m) (u : Int) :
    CkW w q db n9 m (some ⟨g, 0, none⟩) A2 c2 ws (W.setCell ⟨g, j, none⟩ (.int .u8 u)) := by
  obtain ⟨h1, h2, h3, h4, h5, h6⟩ := h
  obtain ⟨g', cs, hg, hn, hh, hc⟩ := h6 (by omega)
  obtain rfl : g' = g := by injection hg with hg; injection hg with hg; exact hg.symm
  have hgd : db ≠ g' := by omega
  have hgq : q ≠ g' := by omega
  refine ⟨h1.kept (Below.heap_setCell _ ⟨g', j, none⟩ _ db hgd), h2.other hgq _, h3.kept ((Kept.refl _ W).setCell (fun h => absurd h.1 (show ¬ g' < n9 by omega)) _), h4.setCell (by show w.heap.size ≤ g'; omega) _, by simpa using h5, fun _ => ⟨g', _, rfl, hn, hh.put j _, fun i hi => ?_⟩⟩
  obtain ⟨u', hu'⟩ := hc i hi
  by_cases he : i = j
  · subst he
    refine ⟨u, ?_⟩
    rw [Array.getElem?_setIfInBounds_self_of_lt (Array.getElem?_eq_some_iff.1 hu').1]
  · exact ⟨u', by rw [Array.getElem?_setIfInBounds_ne (fun h => he h.symm)]; exact hu'⟩
theorem writes_works (A : Option Addr) (n c : Nat) (z : Bool) (w : World) (hT : Tab w) (hl : 30 < n) (hm : n ≤ maxLen) :
    Calls Tryd.prog 6 #[.slice A n c, .bool z] w fun e w' => e = .returned (.bool true) ∧ Below w.heap.size w w' := by
  unfold maxLen at hm
  have hw := Lib.hid (works_any w hT)
  go_enter Tryd.func6, Tryd.ntmps6
  go_wp2_with (go_at_call 11; refine hw.out.mono ?_; rintro e w9 ⟨rfl, hb9⟩)
  go_ret
  exact ⟨rfl, hb9⟩
/-- The text of what waits, named: so that a region takes this operation in its turn, behind the call that gives it. -/
def cvOp2 : Op := Op.convert 22 9 (.tmp 118)
attribute [local go_sem] cvOp2
set_option maxRecDepth 100000 in
set_option maxHeartbeats 4000000 in
theorem lawWrites (A : Option Addr) (n c : Nat) (z : Bool) (xs : List (List UInt8)) (w : World) (hT : Tab w) (hn : n = xs.length) (hA : LL w A xs) (hl : n ≤ 30) :
    Calls Tryd.prog 6 #[.slice A n c, .bool z] w fun e w' => e = .returned (.bool true) ∧ Below w.heap.size w w' := by
  have hT' := Lib.hid hT
  have hn' := Lib.hid hn
  have hA' := Lib.hid hA
  have hg0 := hT.lt
  have hD1 := dec_new w
  have hb1 : Below w.heap.size w ((w.alloc (.cells #[.int .u8 0, .int .u8 0, .int .u8 0, .int .i64 0, .bool true] 57)).alloc (.cells #[.slice none 0 0] 43)) := ((Below.refl w.heap.size w).alloc (Nat.le_refl _) _).alloc (by simp) _
  have k1 := Has.new (w.alloc (.cells #[.int .u8 0, .int .u8 0, .int .u8 0, .int .i64 0, .bool true] 57)) 43 #[.slice none 0 0]
  simp only [World.size_alloc] at k1
  have hS0 : StW w (w.heap.size + 1) w.heap.size [] ((w.alloc (.cells #[.int .u8 0, .int .u8 0, .int .u8 0, .int .i64 0, .bool true] 57)).alloc (.cells #[.slice none 0 0] 43)) :=
    ⟨hD1.below ((Below.refl _ _).alloc (Nat.le_refl _) _), Nat.le_refl _, by omega, hb1, none, 0, k1, fun h => absurd h (by simp)⟩
  have hS0' := Lib.hid hS0
  clear hT hn hA hD1 hb1 k1 hS0
  go_enter Tryd.func6, Tryd.ntmps6
  go_wp2_with (go_at_call 21; (with_reducible refine Calls.mono (new_any _) ?_); rintro e w1 ⟨rfl, rfl⟩)
  go_loopw [5, 7] (fun v5 v7 W => ∃ (k db : Nat) (ws : List UInt8), v5 = .pointer (some ⟨db, 0, none⟩) ∧ v7 = .int .i64 (k : Int) ∧ k ≤ n ∧ StW w (w.heap.size + 1) db ws W) (fun _ v7 _ => n - (intOf v7).toNat)
  case atStart => exact ⟨0, w.heap.size, [], rfl, rfl, Nat.zero_le _, hS0'.out⟩
  case round =>
    obtain ⟨k, db, ws, rfl, rfl, hk, hS⟩ := hrel
    have hS' := Lib.hid hS
    obtain ⟨g1, g2, g3, g4, g5, g6⟩ := hS.q
    by_cases hlt : k < n
    · have hki : (k : Int) < (n : Int) := by omega
      have hkn : (0 : Int) ≤ (k : Int) := by omega
      obtain ⟨x, hx⟩ : ∃ x, xs[k]? = some x := ⟨xs[k]'(by have := hn'.out; omega), List.getElem?_eq_getElem (by have := hn'.out; omega)⟩
      obtain ⟨b, o, rfl, hbw, hcell⟩ := hA'.out (by have := hn'.out; omega)
      obtain ⟨Ai, ci, hc1, hri⟩ := hcell k x hx
      have hBr := hS.2.2.2.1
      have hlc : ∀ W, Below w.heap.size w W → W.cell? ⟨b, o + k, none⟩ = some (.slice Ai x.length ci) := fun W hb => (hb.cell (p := ⟨b, o + k, none⟩) hbw).trans hc1
      have hli := Lib.hid (fun W (hb : Below w.heap.size w W) => rd_below hri hb (Nat.le_refl _))
      obtain ⟨m, hm⟩ : ∃ m, x.length = m := ⟨_, rfl⟩
      rw [hm] at hlc
      have e1 := hlc wr hBr
      have hlc' := Lib.hid hlc
      have hm' := Lib.hid hm
      have hx' := Lib.hid hx
      have hBr' := Lib.hid hBr
      have hTr := Lib.hid (hT'.out.below hBr)
      clear hcell hc1 hri hlc hBr hS hm hx
      by_cases h60 : 60 < m
      · have h60i : (60 : Int) < (m : Int) := by omega
        go_wp2_with (go_at_call 11; (with_reducible refine Calls.mono (works_any _ hTr.out) ?_); rintro e w9 ⟨rfl, hb9⟩)
        refine bodyPost_ret (v := .bool true) (by simp [results, Tryd.results6, go_sem]) rfl ⟨rfl, hBr'.out.trans (hb9.mono hBr'.out.size)⟩
      · have h60i : (m : Int) ≤ 60 := by omega
        go_upto_if 45 with (fail)
        go_cut [5, 8, 9, 10, 11] from 30 to 124 (fun s5 _ _ _ _ wx => ∃ (db : Nat) (ws : List UInt8), s5 = .pointer (some ⟨db, 0, none⟩) ∧ StW w (w.heap.size + 1) db ws wx)
        case first =>
          obtain ⟨hD, hdb, hdq, hB, A', c', hq, hrd⟩ := hS'.out
          obtain ⟨tl, htl⟩ : ∃ tl, (if ws = [] then [] else inst : List UInt8) = tl := ⟨_, rfl⟩
          have hRE := refEnd_any A' ws ws.length c' wr rfl
          unfold RefEnded at hRE
          rw [htl] at hRE
          have hEn := fun (W : World) (hd : Dec W db ws) => end_any db ws W hd
          unfold Wrote at hEn
          rw [htl] at hEn
          have eq0 := hq.cell 0
          have hRE' := Lib.hid hRE
          have hEn' := Lib.hid hEn
          have hq' := Lib.hid hq
          have hD' := Lib.hid hD
          have hB' := Lib.hid hB
          clear hRE hEn hq hD hB hrd htl
          go_wp2_with (first
            | (go_at_call 22; (with_reducible refine Calls.mono hRE'.out ?_); rintro e w2 ⟨rfl, hb2⟩; have hb2' := Lib.hid hb2; have hbs2 := hb2.size; have hn2 := Lib.hid (Has.new w2 43 #[.slice none 0 0]); have hD3 := Lib.hid ((hD'.out.below hb2).below ((Below.refl _ _).alloc (Nat.le_refl _) (.cells #[.slice none 0 0] 43))); have hq3 := Lib.hid ((hq'.out.below hb2 hq'.out.lt).alloc (.cells #[.slice none 0 0] 43)); clear hb2)
            | (go_at_call 23; (with_reducible refine Calls.mono (hEn'.out _ hD3.out) ?_); rintro e w4 ⟨rfl, hD4, hC4⟩; have hD4' := Lib.hid hD4; have hC4' := Lib.hid hC4; have kq := hC4.has (show ¬ w.heap.size + 1 = db by omega) hq3.out; have e4 := kq.cell 0; have f4 := kq.free 0; have k8 := hC4.has (show ¬ w2.heap.size = db by omega) hn2.out; have e8 := k8.cell 0; have kq' := Lib.hid kq; clear kq k8 hD4 hC4)
            | (go_at_call 24; (with_reducible refine Calls.mono (num_any _ _) ?_); rintro e w5 ⟨rfl, rfl⟩))
          all_goals
            go_meet
          case rel =>
            refine ⟨db, [], rfl, hD4'.out.kept (Below.heap_setCell _ ⟨w.heap.size + 1, 0, none⟩ _ db (by omega)), hdb, hdq, ?_, none, 0, by simpa using kq'.out.put 0 (.slice none 0 0), fun h => absurd h (by simp)⟩
            have h1 := (hB'.out.trans (hb2'.out.mono hB'.out.size)).alloc (by omega) (.cells #[.slice none 0 0] 43)
            exact (h1.trans (hC4'.out.below (fun i hi => by omega) (by simp; omega))).setCell (p := ⟨w.heap.size + 1, 0, none⟩) (by simp) _
          case rel => exact ⟨db, ws, rfl, hS'.out⟩
        case rest =>
          clear hS' g1 g2 g3 g4 g5 g6
          obtain ⟨db, ws, rfl, hS⟩ := hcut
          have hS' := Lib.hid hS
          obtain ⟨g1, g2, g3, g4, g5, g6⟩ := hS.q
          clear hS
          go_upto_if 67 with (fail)
          go_cut [5, 12] from 30 to 124 (fun s5 _ wx => ∃ (db : Nat) (ws : List UInt8), s5 = .pointer (some ⟨db, 0, none⟩) ∧ StW w (w.heap.size + 1) db ws wx)
          case first =>
            obtain ⟨hD, hdb, hdq, hB, A', c', hq, hrd⟩ := hS'.out
            have hcp := copy_any db ws wc hD
            unfold CopyOf at hcp
            obtain ⟨rn, hrn⟩ : ∃ rn, run4 (ws ++ [130]) = rn := ⟨_, rfl⟩
            have hwr := fun (W : World) (hd : Dec W db ws) (hT : Tab W) => write_lit db 1 ws [130] rn.1 rn.2 #[.int .u8 130] W hd hT hrn rfl rfl (by decide)
            have hcp' := Lib.hid hcp
            have hwr' := Lib.hid hwr
            have hD' := Lib.hid hD
            have hB' := Lib.hid hB
            have hq' := Lib.hid hq
            have hrd' := Lib.hid hrd
            clear hcp hwr hD hB hq hrd hrn
            go_wp2_with (first
              | (go_at_call 25; (with_reducible refine Calls.mono hcp'.out ?_); rintro e w2 ⟨rfl, hD2, hb2⟩; have hb2' := Lib.hid hb2; have hD2' := Lib.hid hD2; have hw2 := Lib.hid (hwr'.out w2 (hD'.out.below hb2) (hT'.out.below (hB'.out.trans (hb2.mono hB'.out.size)))); clear hD2 hb2)
              | (go_at_call 26; (with_reducible refine Calls.mono hw2.out ?_); rintro e w4 ⟨rfl, hD4, hC4⟩; have hC4' := Lib.hid hC4; clear hD4 hC4))
            all_goals
              go_meet
            case rel =>
              have hs2 := hb2'.out.size
              have hlt2 := hD2'.out.lt
              refine ⟨wc.heap.size, ws, rfl, hD2'.out.chg hC4'.out (by omega), by omega, by omega, ?_, A', c', hC4'.out.has (by omega) (hq'.out.below hb2'.out hq'.out.lt), ?_⟩
              · exact (hB'.out.trans (hb2'.out.mono hB'.out.size)).trans (hC4'.out.below (fun i hi => by omega) (by have := hB'.out.size; omega))
              · have hk : Kept (fun b => b < wc.heap.size ∧ b ≠ w.heap.size + 1 ∧ b ≠ db) wc w4 := fun i hi => (hC4'.out.block i (by omega) (fun h => hi.2.2 h)).trans (hb2'.out.block i hi.1)
                exact (hrd'.out.kept hk).mono (fun b hb => ⟨by have := hC4'.out.size; omega, hb.2.1, by omega⟩)
            case rel => exact ⟨db, ws, rfl, hS'.out⟩
          case rest =>
            clear hS' g1 g2 g3 g4 g5 g6
            obtain ⟨db, ws, rfl, hS⟩ := hcut
            have hS' := Lib.hid hS
            obtain ⟨g1, g2, g3, g4, g5, g6⟩ := hS.q
            clear hS
            obtain ⟨w8, hw8⟩ : ∃ w8, w8 = wc := ⟨_, rfl⟩
            subst hw8
            obtain ⟨hD, hdb, hdq, hB, A', c', hq, hrd⟩ := hS'.out
            obtain ⟨rn, hrn⟩ : ∃ rn, run4 (ws ++ x) = rn := ⟨_, rfl⟩
            have hRW := fun (W : World) (hb : Below w8.heap.size w8 W) => refWrite_any A' Ai ws x ws.length c' m ci W ((hrd.kept (Kept.below hb (fun b h => h.1))).mono (fun b h => Nat.lt_of_lt_of_le h.1 hb.size)) (hli.out W (hB.trans (hb.mono hB.size))) rfl hm'.out.symm (by omega) (by omega)
            unfold RefWrote at hRW
            rw [hrn] at hRW
            have hSW : Hid (∀ W, Below w8.heap.size w8 W → W.cell? ⟨w.heap.size + 1, 0, none⟩ = some (.slice A' ws.length c') ∧ W.cell? ⟨b, o + k, none⟩ = some (.slice Ai m ci)) := Lib.hid (fun (W : World) (hb : Below w8.heap.size w8 W) => ⟨(hq.below hb hq.lt).cell 0, hlc'.out W (hB.trans (hb.mono hB.size))⟩)
            have hwd := fun (W : World) (hd : Dec W db ws) (hT : Tab W) (Ac : Option Addr) (cc : Nat) (hr : Rd W (· < W.heap.size) Ac x) => write_any db ws x Ac m cc W hd hm'.out.symm hr hT (by have := hm'.out; omega)
            unfold Wrote at hwd
            rw [hrn] at hwd
            have hRW' := Lib.hid hRW
            have hwd' := Lib.hid hwd
            have hD' := Lib.hid hD
            have hB' := Lib.hid hB
            have hq' := Lib.hid hq
            have hbd := Lib.hid ((Below.refl w8.heap.size w8).drew)
            have hbda := Lib.hid (((Below.refl w8.heap.size w8).alloc (Nat.le_refl _) (.cells #[.slice none 0 0] 43)).drew)
            have hnz := Lib.hid ((Has.new w8 43 #[.slice none 0 0]).drew)
            clear hRW hwd hD hB hq hrd hrn
            go_upto_region 19 with (fail)
            go_cut [13, 14] from 30 to 124 (fun s13 s14 wx => ∃ (zb : Nat) (A2 : Option Addr) (c2 : Nat), s13 = .pointer (some ⟨zb, 0, none⟩) ∧ s14 = .string ⟨rn.1.toArray⟩ ∧ w8.heap.size ≤ zb ∧ Has wx zb 43 #[.slice A2 rn.2.length c2] ∧ Rd wx (fun b => w8.heap.size ≤ b ∧ b < wx.heap.size ∧ b ≠ zb) A2 rn.2 ∧ Below w8.heap.size w8 wx)
            case first =>
              go_region_held3 (fun W => W.cell? ⟨w.heap.size + 1, 0, none⟩ = some (.slice A' ws.length c') ∧ W.cell? ⟨b, o + k, none⟩ = some (.slice Ai m ci))
                (first
                | with_reducible exact hSW.out _ hbd.out
                | with_reducible exact hSW.out _ hbda.out
                | with_reducible exact hSW.out _ hb2.out
                | with_reducible exact hSW.out _ hb2a.out
                | with_reducible exact hSW.out _ (hb2v.out _)
                | with_reducible exact hSW.out _ hb3.out
                | with_reducible exact hSW.out _ (hb3s.out _)
                | fail)
                (first
                | (go_at_call 27; (with_reducible refine Calls.mono (hRW'.out _ hbd.out) ?_); rintro e w2 ⟨v2, rfl, ⟨A2, c2, rfl, _, _, hr2⟩, hb2d⟩; have hb2 := Lib.hid (hbd.out.trans hb2d); have hb2a := Lib.hid (hb2.out.alloc hb2.out.size (.cells #[.slice none 0 0] 43)); have hb2v := Lib.hid (fun u => hb2.out.alloc hb2.out.size (.cells #[u] 43)); have hr2' := Lib.hid hr2; clear hb2d hr2)
                | (go_at_call 27; (with_reducible refine Calls.mono (hRW'.out _ hbda.out) ?_); rintro e w3 ⟨v3, rfl, ⟨A3, c3, rfl, _, _, hr3⟩, hb3d⟩; have hb3 := Lib.hid (hbda.out.trans (hb3d.mono hbda.out.size)); have hb3s := Lib.hid (fun u => hb3.out.setCell (p := ⟨w8.heap.size, 0, none⟩) (Nat.le_refl _) u); have hr3' := Lib.hid hr3; have hn3 := Lib.hid (hnz.out.below hb3d hnz.out.lt); have e3 := hn3.out.cell 0; have f3 := hn3.out.free 0; clear hb3d hr3))
              · go_wp2_with fail
                go_meet
                case rel =>
                  refine ⟨w2.heap.size, A2, c2, rfl, rfl, hb2.out.size, Has.new w2 _ _, (hr2'.out.kept (Kept.below ((Below.refl w2.heap.size w2).alloc (Nat.le_refl _) _) (fun b h => h.2))).mono (fun i h => ?_), hb2v.out _⟩
                  have h1 : w8.heap.size ≤ i := h.1
                  have h2 := h.2
                  refine ⟨h1, ?_, by omega⟩
                  rw [World.size_alloc]
                  omega
              · go_wp2_with fail
                go_meet
                case rel =>
                  refine ⟨w8.heap.size, A3, c3, rfl, rfl, Nat.le_refl _, by simpa using hn3.out.put 0 (.slice A3 rn.2.length c3), (hr3'.out.kept ((Kept.refl _ w3).setCell (p := ⟨w8.heap.size, 0, none⟩) (fun h => ?_) _)).mono (fun i h => ?_), hb3s.out _⟩
                  · have h1 : (w8.alloc (.cells #[.slice none 0 0] 43)).heap.size ≤ w8.heap.size := h.1
                    rw [World.size_alloc] at h1
                    omega
                  · have h1 : (w8.alloc (.cells #[.slice none 0 0] 43)).heap.size ≤ i := h.1
                    rw [World.size_alloc] at h1
                    have h2 := h.2
                    refine ⟨by omega, ?_, by omega⟩
                    simp
                    omega
            case rest =>
              obtain ⟨zb, A2, c2, rfl, rfl, hzb, hz2, hr2, hbx⟩ := hcut
              have hB9 := hB'.out.trans (hbx.mono hB'.out.size)
              have hbxs := hbx.size
              have hzl := hz2.lt
              have hB9a := hB9.alloc hB9.size (.cells #[] 5)
              have e1 := hlc'.out wc hB9
              have e1a := hlc'.out _ hB9a
              have hE := Lib.hid (empty_own wc)
              have hbE := Lib.hid ((Below.refl wc.heap.size wc).alloc (Nat.le_refl _) (.cells #[] 5))
              have hliE := Lib.hid (hli.out _ hB9a)
              have hB9' := Lib.hid hB9
              have hxl : Hid (([] ++ x : List UInt8).length = m) := Lib.hid (by simpa using hm'.out)
              have hD9 := Lib.hid (hD'.out.below hbx)
              have hq9 := Lib.hid (hq'.out.below hbx hq'.out.lt)
              have hz2' := Lib.hid hz2
              have hr2' := Lib.hid hr2
              have hbx' := Lib.hid hbx
              have hT9 := Lib.hid (hT'.out.below hB9)
              clear hB9 hB9a hz2 hr2 hbx hRW' hSW hbd hbda hnz
              go_wp2_with (first
                | (at_builtin; refine wpList_append_rd rfl _ _ rfl rfl hE.out _ Ai x m ci hm'.out.symm rfl hliE.out (by have := hm'.out; simp; omega) (by simp) ?_; intro v5 w5 hv5 hg5; have hb5 := Lib.hid (hbE.out.grown hg5 (by simp) (fun g e => (hE.out.own g e).1)); obtain ⟨Ac, cc, rfl, hr5, hrow5⟩ := hv5.whole2; rw [hxl.out] at hrow5 ⊢; have hw5 := Lib.hid (hwd'.out w5 (hD9.out.below hb5.out) (hT9.out.below hb5.out) Ac cc (by rw [List.nil_append] at hr5; exact hr5.mono (fun b h => h.2))); have hrow5' := Lib.hid hrow5; clear hv5 hg5 hr5 hrow5)
                | (go_at_call 26; (with_reducible refine Calls.mono hw5.out ?_); rintro e w6 ⟨rfl, hD6, hC6⟩; have hz6 := hC6.has (show ¬ zb = db by omega) (hz2'.out.below hb5.out hz2'.out.lt); have hq6 := hC6.has (show ¬ w.heap.size + 1 = db by omega) (hq9.out.below hb5.out hq9.out.lt); have ez6 := hz6.cell 0; have eq6 := hq6.cell 0; have fq6 := hq6.free 0; have hD6' := Lib.hid hD6; have hC6' := Lib.hid hC6; have hq6' := Lib.hid hq6; have hz6' := Lib.hid hz6; clear hD6 hC6 hq6 hz6)
                | fail)
              have hck : CkW w (w.heap.size + 1) db wc.heap.size m Ac A2 c2 rn.2 (w6.setCell ⟨w.heap.size + 1, 0, none⟩ (.slice A2 rn.2.length c2)) := by
                have hs5 := hb5.out.size
                have hs6 := hC6'.out.size
                have hk : Kept (fun b => b < wc.heap.size ∧ b ≠ w.heap.size + 1 ∧ b ≠ db) wc w6 := fun i hi => (hC6'.out.block i (by omega) (fun h => hi.2.2 h)).trans (hb5.out.block i hi.1)
                refine ⟨hD6'.out.kept (Below.heap_setCell _ ⟨w.heap.size + 1, 0, none⟩ _ db (by omega)), by simpa using hq6'.out.put 0 (.slice A2 rn.2.length c2), ?_, ?_, by simp; omega, fun h0 => ?_⟩
                · refine ((hr2'.out.mono (S' := fun b => b < wc.heap.size ∧ b ≠ w.heap.size + 1 ∧ b ≠ db) (fun i hi => ⟨hi.2.1, ?_, ?_⟩)).kept hk).kept ((Kept.refl _ w6).setCell (fun h => by have := h.2.1; simp at this) _)
                  · have := hi.1; omega
                  · have := hi.1; omega
                · exact ((hB9'.out.trans (hb5.out.mono hB9'.out.size)).trans (hC6'.out.below (fun i hi => by omega) (by omega))).setCell (p := ⟨w.heap.size + 1, 0, none⟩) (by simp) _
                · obtain ⟨g, cs, hg, hn, hh, hc⟩ := hrow5'.out h0
                  exact ⟨g, cs, hg, hn, (hC6'.out.has (by omega) hh).other (by omega) _, hc⟩
              have hck' := Lib.hid hck
              have hn9 : w.heap.size ≤ wc.heap.size ∧ w.heap.size + 1 < wc.heap.size ∧ db < wc.heap.size := ⟨by omega, by omega, by omega⟩
              clear hck hrow5' hr2' hz2' hz6' hq6' hD6' hC6' hb5 hw5 hE hbE hliE hD9 hq9 hT9 hbx' e1 e1a ez6 eq6 fq6 hzl hwd'
              generalize (w6.setCell ⟨w.heap.size + 1, 0, none⟩ (.slice A2 rn.2.length c2)) = w7 at hck' ⊢
              go_loopw [18] (fun v18 W => ∃ j : Nat, v18 = .int .i64 (j : Int) ∧ j ≤ m ∧ CkW w (w.heap.size + 1) db wc.heap.size m Ac A2 c2 rn.2 W) (fun v18 _ => m - (intOf v18).toNat)
              case atStart => exact ⟨0, rfl, Nat.zero_le _, hck'.out⟩
              case round =>
                obtain ⟨j, rfl, hj, hc⟩ := hrel
                have hc' := Lib.hid hc
                obtain ⟨h1, h2, h3, h4, h5, h6⟩ := hc
                by_cases hjl : j < m
                · have hji : (j : Int) < (m : Int) := by omega
                  have hj0 : (0 : Int) ≤ (j : Int) := by omega
                  obtain ⟨g, cs, rfl, hg9, hh, hcs⟩ := h6 (by omega)
                  obtain ⟨u, hu⟩ := hcs j hjl
                  have ec := hh.cell j
                  rw [hu] at ec
                  have fc := hh.free j
                  have hput := Lib.hid (fun u => hc'.out.put (by omega) (by omega) (by omega) hjl u)
                  clear h1 h2 h3 h4 h5 h6 hh hcs hu
                  go_wp2
                  exact ⟨⟨j + 1, by go_num, by omega, hput.out _⟩, by simp [intOf]; omega⟩
                · obtain rfl : j = m := by omega
                  have hS : Hid (∀ W', Below wr.heap.size wr W' → W'.cell? ⟨w.heap.size + 1, 0, none⟩ = some (.slice A2 rn.2.length c2) ∧ (convert 22 9 (.slice A2 rn.2.length c2)).run Tryd.prog W' = .ok (.string ⟨rn.2.toArray⟩) W') := Lib.hid (fun W' hb => ⟨(h2.below hb h2.lt).cell 0, (h3.kept (Kept.below hb (fun b h => by have := h.1; omega))).text (P := Tryd.prog) 22 9 5 c2 Tryd.underlying22 Tryd.underlying5 Tryd.underlying9⟩)
                  have hwt := waits_any db rn.2 wr.drew (h1.below (Below.refl _ _).drew)
                  unfold ListOf at hwt
                  have hwt' := Lib.hid hwt
                  have hbd := Lib.hid ((Below.refl wr.heap.size wr).drew)
                  clear h1 h2 h3 h4 h5 h6 hwt
                  go_upto_region 27 with (fail)
                  rw [show Op.convert 22 9 (.tmp 118) = cvOp2 from rfl]
                  go_region_held3 (fun W => W.cell? ⟨w.heap.size + 1, 0, none⟩ = some (.slice A2 rn.2.length c2) ∧ (convert 22 9 (.slice A2 rn.2.length c2)).run Tryd.prog W = .ok (.string ⟨rn.2.toArray⟩) W)
                    (first
                    | with_reducible exact hS.out _ hb3.out
                    | with_reducible exact hS.out _ hbd.out
                    | fail)
                    (first
                    | (go_at_call 24; (with_reducible refine Calls.mono (num_any _ _) ?_); rintro e w' ⟨rfl, rfl⟩)
                    | (go_at_call 28; (with_reducible refine Calls.mono hwt'.out ?_); rintro e w3 ⟨v3, rfl, hv3, hb3d⟩; have hb3 := Lib.hid (hbd.out.trans hb3d); obtain ⟨A3, c3, rfl, hr3⟩ := hv3.shape; have q3 := hr3.text (P := Tryd.prog) 22 9 5 c3 Tryd.underlying22 Tryd.underlying5 Tryd.underlying9; clear hv3 hb3d hr3))
                  all_goals
                    go_wp2
                    refine ⟨⟨k + 1, db, rn.2, rfl, by go_num, by omega, ?_⟩, by simp [intOf]; omega⟩
                    obtain ⟨h1, h2, h3, h4, h5, h6⟩ := hc'.out
                    exact ⟨h1.below hb3.out, hdb, hdq, h4.trans (hb3.out.mono h4.size), A2, c2, h2.below hb3.out h2.lt, (h3.kept (Kept.below hb3.out (fun b h => by have := h.1; omega))).mono (fun b h => ⟨by have := h.1; have := hb3.out.size; omega, h.2⟩)⟩
    · obtain rfl : k = n := by omega
      have hB := hS.2.2.2.1
      have hBs := hB.size
      have hwk := fun (W : World) (hb : Below wr.heap.size wr W) => works_any W (hT'.out.below (hB.trans (hb.mono hBs)))
      have hwk' := Lib.hid hwk
      have hB' := Lib.hid hB
      have hb0 := Lib.hid (Below.refl wr.heap.size wr)
      clear hS hS' hwk hB
      cases z
      · have hwn := Lib.hid (fun (W : World) (x : Value) => write_none none x W (.inl rfl))
        have hen := Lib.hid (fun (W : World) => end_none none W (.inl rfl))
        have hwa := Lib.hid (fun (W : World) => waits_none none W (.inl rfl))
        have hco := Lib.hid (fun (W : World) => copy_none none W (.inl rfl))
        go_wp2_with (first
          | (go_at_call 26; (with_reducible refine Calls.mono (hwn.out _ _) ?_); rintro e w2 ⟨rfl, hb2d⟩; have hb2 := Lib.hid (hb0.out.trans hb2d); clear hb2d)
          | (go_at_call 23; (with_reducible refine Calls.mono (hen.out _) ?_); rintro e w3 ⟨rfl, rfl⟩)
          | (go_at_call 24; (with_reducible refine Calls.mono (num_any _ _) ?_); rintro e w4 ⟨rfl, rfl⟩)
          | (go_at_call 28; (with_reducible refine Calls.mono (hwa.out _) ?_); rintro e w5 ⟨rfl, rfl⟩)
          | (go_at_call 25; (with_reducible refine Calls.mono (hco.out _) ?_); rintro e w6 ⟨rfl, rfl⟩)
          | (go_at_call 11; (with_reducible refine Calls.mono (hwk'.out _ hb2.out) ?_); rintro e w7 ⟨rfl, hb7⟩))
        go_ret
        exact ⟨rfl, hB'.out.trans ((hb2.out.trans (hb7.mono hb2.out.size)).mono hBs)⟩
      · have k1 := Has.new wr 57 #[.int .u8 0, .int .u8 0, .int .u8 0, .int .i64 0, .bool false]
        have hb1 := (Below.refl wr.heap.size wr).alloc (Nat.le_refl _) (.cells #[.int .u8 0, .int .u8 0, .int .u8 0, .int .i64 0, .bool false] 57)
        obtain ⟨w1, hw1⟩ : ∃ w1, wr.alloc (.cells #[.int .u8 0, .int .u8 0, .int .u8 0, .int .i64 0, .bool false] 57) = w1 := ⟨_, rfl⟩
        have hw1' := Lib.hid hw1
        rw [hw1] at k1 hb1
        clear hw1
        have hno : ∀ W, Below w1.heap.size w1 W → NoD W (some ⟨wr.heap.size, 0, none⟩) := fun W hb => .inr ⟨wr.heap.size, rfl, (k1.below hb k1.lt).cell 4⟩
        have hwn := Lib.hid (fun (x : Value) => write_none (some ⟨wr.heap.size, 0, none⟩) x w1 (hno _ ((Below.refl _ _).alloc (Nat.le_refl _) _)))
        have hen := Lib.hid (fun (W : World) (hb : Below w1.heap.size w1 W) => end_none _ W (hno W hb))
        have hwa := Lib.hid (fun (W : World) (hb : Below w1.heap.size w1 W) => waits_none _ W (hno W hb))
        have hco := Lib.hid (fun (W : World) (hb : Below w1.heap.size w1 W) => copy_none _ W (hno W hb))
        have hb1' := Lib.hid hb1
        clear k1 hno hb1
        go_wp2_with (first
          | (go_at_call 26; rw [hw1'.out]; (with_reducible refine Calls.mono (hwn.out _) ?_); rintro e w2 ⟨rfl, hb2d⟩; have hb2 := Lib.hid hb2d; clear hb2d)
          | (go_at_call 23; (with_reducible refine Calls.mono (hen.out _ hb2.out) ?_); rintro e w3 ⟨rfl, rfl⟩)
          | (go_at_call 24; (with_reducible refine Calls.mono (num_any _ _) ?_); rintro e w4 ⟨rfl, rfl⟩)
          | (go_at_call 28; (with_reducible refine Calls.mono (hwa.out _ hb2.out) ?_); rintro e w5 ⟨rfl, rfl⟩)
          | (go_at_call 25; (with_reducible refine Calls.mono (hco.out _ hb2.out) ?_); rintro e w6 ⟨rfl, rfl⟩)
          | (go_at_call 11; (with_reducible refine Calls.mono (hwk'.out _ (hb1'.out.trans (hb2.out.mono hb1'.out.size))) ?_); rintro e w7 ⟨rfl, hb7⟩))
        have hb3 := hb1'.out.trans (hb2.out.mono hb1'.out.size)
        go_ret
        exact ⟨rfl, hB'.out.trans ((hb3.trans (hb7.mono hb3.size)).mono hBs)⟩
end Go.Proofs.YtkpbdamkdlbhmaaDoor
