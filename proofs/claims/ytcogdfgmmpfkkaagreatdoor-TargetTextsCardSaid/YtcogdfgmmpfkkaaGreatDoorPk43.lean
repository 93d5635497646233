import Derived.Test.YtcogdfgmmpfkkaaGreatDoorPk31
namespace Go.Proofs.YtcogdfgmmpfkkaaGreatDoor
open Go.RowKit
attribute [local go_sem] Oper.semAt_some

/-! ## The chapter's rows, walked -/
theorem wk_s1 (w : World) (A1 A2 : Option Addr) (c1 c2 : Nat) (h1 : Txs w A1 wkT1.1) (h2 : Prs w A2 wkT1.2) (B1 B2 : Option Addr) (h3 : Txs w B1 wkT1.1) (h4 : Prs w B2 wkT1.2) : Calls Tryz.prog 9 #[.agg #[.slice A1 2 c1, .slice A2 3 c2], .agg #[.slice B1 2 2, .slice B2 3 3]] w fun e w' => e = .returned (.bool true) ∧ Below w.heap.size w w' := by
  refine (refSame_any A1 A2 B1 B2 c1 c2 2 3 wkT1 wkT1 w wk_few1 wk_few1 h1 h2 h3 h4).mono ?_
  unfold BoolR
  rw [decide_eq_true rfl]
  exact fun e w' h => h
theorem wk_s2 (w : World) (A1 A2 : Option Addr) (c1 c2 : Nat) (h1 : Txs w A1 [[]]) (B1 : Option Addr) (h3 : Txs w B1 [[]]) : Calls Tryz.prog 9 #[.agg #[.slice A1 1 c1, .slice A2 0 c2], .agg #[.slice B1 1 1, .slice none 0 0]] w fun e w' => e = .returned (.bool true) ∧ Below w.heap.size w w' := by
  refine (refSame_any A1 A2 B1 none c1 c2 1 0 ([[]], []) ([[]], []) w wk_few2 wk_few2 h1 (Prs.nil _ _) h3 (Prs.nil _ _)).mono ?_
  unfold BoolR
  rw [decide_eq_true rfl]
  exact fun e w' h => h
def wkBadO : Obj := .cells (strsC wkBad).toArray 9
theorem wk_badC : (strsC wkBad).toArray = #[.string ⟨#[97]⟩, .string ⟨#[47, 46, 46]⟩, .string ⟨#[47, 37, 50, 101, 37, 50, 101]⟩, .string ⟨#[47, 97, 37, 50]⟩, .string ⟨#[47, 35]⟩] := rfl
set_option maxRecDepth 100000 in
set_option maxHeartbeats 8000000 in
theorem works_any (hP : TgProg) (w : World) (hT : TabT w) : Calls Tryz.prog 6 #[] w (BoolR true w) := by
  unfold BoolR
  have hT' := Lib.hid hT
  clear hT
  go_enter Tryz.func6, Tryz.ntmps6
  go_upto_region 2 with (go_at_call 7; (with_reducible refine Calls.mono (wk_p1 hP _ hT'.out) ?_); rintro e w1 ⟨⟨A1, c1, A2, c2, rfl, hx1, hx2⟩, hb1⟩; have hb1' := Lib.hid hb1; have hx1' := Lib.hid hx1; have hx2' := Lib.hid hx2; have z1 := hb1.size; clear hb1 hx1 hx2)
  have hkA := Has.new w1 26 #[.slice A1 2 c1, .slice A2 3 c2]
  have alA := (Below.refl w1.heap.size w1).alloc (Nat.le_refl _) (.cells #[.slice A1 2 c1, .slice A2 3 c2] 26)
  obtain ⟨wA, hwA⟩ : ∃ X, w1.alloc (.cells #[.slice A1 2 c1, .slice A2 3 c2] 26) = X := ⟨_, rfl⟩
  rw [hwA] at hkA alA ⊢
  have hBA := Lib.hid (below_on hb1'.out alA)
  have hxA1 := Lib.hid (hx1'.out.below alA)
  have hxA2 := Lib.hid (hx2'.out.below alA)
  have hkA' := Lib.hid hkA
  have zA : w1.heap.size < wA.heap.size := hkA.lt
  clear hwA hkA alA hb1' hx1' hx2'
  go_upto_region 3 with (fail)
  have hkB := Has.new wA 9 (strsC wkBad).toArray
  have alB := (Below.refl wA.heap.size wA).alloc (Nat.le_refl _) (.cells (strsC wkBad).toArray 9)
  rw [wk_badC] at hkB alB
  obtain ⟨wB, hwB⟩ : ∃ X, wA.alloc (.cells #[.string ⟨#[97]⟩, .string ⟨#[47, 46, 46]⟩, .string ⟨#[47, 37, 50, 101, 37, 50, 101]⟩, .string ⟨#[47, 97, 37, 50]⟩, .string ⟨#[47, 35]⟩] 9) = X := ⟨_, rfl⟩
  rw [hwB] at hkB alB ⊢
  have hBB := Lib.hid (below_on hBA.out alB)
  have hxB1 := Lib.hid (hxA1.out.below alB)
  have hxB2 := Lib.hid (hxA2.out.below alB)
  have hkA2 := Lib.hid (hkA'.out.below alB hkA'.out.lt)
  have hlB := Lib.hid (Txs.of_has (ls := wkBad) (by rw [wk_badC]; exact hkB))
  have zB : wA.heap.size < wB.heap.size := hkB.lt
  clear hwB hkB alB hBA hxA1 hxA2 hkA'
  go_wp2
  go_loopw [4] (fun x W => ∃ k : Nat, k ≤ 5 ∧ x = .int .i64 (k : Int) ∧ Below wB.heap.size wB W) (fun x _ => 5 - (intOf x).toNat)
  case atStart => exact ⟨0, by omega, rfl, Below.refl _ _⟩
  case round =>
    obtain ⟨k, hk, rfl, hb⟩ := hrel
    have hb' := Lib.hid hb
    have zr := hb.size
    have hBr := Lib.hid (below_on hBB.out hb)
    clear hb
    by_cases hlt : k < 5
    · have hltI : (k : Int) < 5 := by omega
      have hlt5 : k < wkBad.length := hlt
      obtain ⟨b, o, hA, _, hc⟩ := (hlB.out.below hb'.out) (by decide)
      injection hA with hA
      injection hA with hA1 hA2 _
      have ck : wr.cell? ⟨wA.heap.size, k, none⟩ = some (.string ⟨(wkBad[k]'hlt5).toArray⟩) := by
        have := hc k _ (List.getElem?_eq_getElem hlt5)
        rw [← hA1, ← hA2, Nat.zero_add] at this
        exact this
      have hmem := Lib.hid (List.getElem_mem hlt5)
      clear hc hA1 hA2
      generalize wkBad[k]'hlt5 = y at *
      have hp3 := Lib.hid (fun W hW => wk_p3 hP y hmem.out W hW)
      go_wp2_with (first
        | (go_at_call 7; (with_reducible refine Calls.mono (hp3.out _ (hT'.out.below hBr.out)) ?_); rintro e w2 ⟨rfl, hb2⟩; have hb2' := Lib.hid hb2; clear hb2)
        | (go_at_call 10; (with_reducible refine Calls.mono (num_any _ _) ?_); rintro e w9 ⟨rfl, hw9⟩; obtain rfl := hw9.symm))
      exact ⟨⟨k + 1, by omega, by go_num, below_on hb'.out ((hb2'.out.alloc hb2'.out.size _))⟩, by simp [intOf]; omega⟩
    · obtain rfl : k = 5 := by omega
      have hxC1 := Lib.hid (hxB1.out.below hb'.out)
      have hxC2 := Lib.hid (hxB2.out.below hb'.out)
      have hkC := Lib.hid (hkA2.out.below hb'.out hkA2.out.lt)
      clear hxB1 hxB2 hkA2 hlB hb'
      go_upto_region 10 with (go_at_call 7; (with_reducible refine Calls.mono (wk_p2 hP _ (hT'.out.below hBr.out)) ?_); rintro e w3 ⟨⟨A3, c3, A4, c4, rfl, hx3⟩, hb3⟩; have hb3' := Lib.hid hb3; have hx3' := Lib.hid hx3; have z3 := hb3.size; clear hb3 hx3)
      have hkD := Has.new w3 26 #[.slice A3 1 c3, .slice A4 0 c4]
      have alD := (Below.refl w3.heap.size w3).alloc (Nat.le_refl _) (.cells #[.slice A3 1 c3, .slice A4 0 c4] 26)
      obtain ⟨wD, hwD⟩ : ∃ X, w3.alloc (.cells #[.slice A3 1 c3, .slice A4 0 c4] 26) = X := ⟨_, rfl⟩
      rw [hwD] at hkD alD ⊢
      have alD2 := below_on hb3'.out alD
      have hBD := Lib.hid (below_on hBr.out alD2)
      have hxD1 := Lib.hid (hxC1.out.below alD2)
      have hxD2 := Lib.hid (hxC2.out.below alD2)
      have hkD1 := Lib.hid (hkC.out.below alD2 hkC.out.lt)
      have hxD3 := Lib.hid (hx3'.out.below alD)
      have hkD' := Lib.hid hkD
      have zD : w3.heap.size < wD.heap.size := hkD.lt
      clear hwD hkD alD alD2 hxC1 hxC2 hkC hb3' hx3'
      have tx1 : Hid (Txs (wD.alloc (.cells #[.string ⟨#[97, 47, 98]⟩] 9)) (some ⟨wD.heap.size, 0, none⟩) [[97, 47, 98]]) := Lib.hid (Txs.of_has (ls := [[97, 47, 98]]) (Has.new wD 9 (strsC [[97, 47, 98]]).toArray))
      have al1 : Hid (Below wD.heap.size wD (wD.alloc (.cells #[.string ⟨#[97, 47, 98]⟩] 9))) := Lib.hid ((Below.refl wD.heap.size wD).alloc (Nat.le_refl _) _)
      have tt1 : Hid (TabT (wD.alloc (.cells #[.string ⟨#[97, 47, 98]⟩] 9))) := Lib.hid ((hT'.out.below hBD.out).below al1.out)
      go_upto_region 11 with (go_at_call 16; (with_reducible refine Calls.mono (wk_t1 hP _ tt1.out _ _ _ _ tx1.out) ?_); rintro e w4 ⟨rfl, hb4⟩; have hb4' := Lib.hid hb4; clear hb4)
      have hB4' := below_on al1.out hb4'.out
      have hB4 := Lib.hid (below_on hBD.out hB4')
      have hx41 := Lib.hid (hxD1.out.below hB4')
      have hx42 := Lib.hid (hxD2.out.below hB4')
      have hk41 := Lib.hid (hkD1.out.below hB4' hkD1.out.lt)
      have hx43 := Lib.hid (hxD3.out.below hB4')
      have hk43 := Lib.hid (hkD'.out.below hB4' hkD'.out.lt)
      have z4 := hB4'.size
      clear hB4' hb4' al1 tx1 tt1 hxD1 hxD2 hkD1 hxD3 hkD' hBD
      have tx2 : Hid (Txs ((w4.alloc (.cells #[.string ⟨#[98, 32, 99]⟩] 9)).alloc (.cells #[.string ⟨#[195, 169]⟩, .string ⟨#[49]⟩] 46)) (some ⟨w4.heap.size, 0, none⟩) [[98, 32, 99]]) := Lib.hid (Txs.of_has (ls := [[98, 32, 99]]) ((Has.new w4 9 (strsC [[98, 32, 99]]).toArray).alloc (.cells (prsC [([195, 169], [49])]).toArray 46)))
      have tx3 : Hid (Prs ((w4.alloc (.cells #[.string ⟨#[98, 32, 99]⟩] 9)).alloc (.cells #[.string ⟨#[195, 169]⟩, .string ⟨#[49]⟩] 46)) (some ⟨(w4.alloc (.cells #[.string ⟨#[98, 32, 99]⟩] 9)).heap.size, 0, none⟩) [([195, 169], [49])]) := Lib.hid (Prs.of_has (qs := [([195, 169], [49])]) (Has.new (w4.alloc (.cells (strsC [[98, 32, 99]]).toArray 9)) 46 (prsC [([195, 169], [49])]).toArray))
      have al2 : Hid (Below w4.heap.size w4 ((w4.alloc (.cells #[.string ⟨#[98, 32, 99]⟩] 9)).alloc (.cells #[.string ⟨#[195, 169]⟩, .string ⟨#[49]⟩] 46))) := Lib.hid (((Below.refl w4.heap.size w4).alloc (Nat.le_refl _) _).alloc (by simp) _)
      have tt2 := Lib.hid ((hT'.out.below hB4.out).below al2.out)
      rw [World.size_alloc] at tx3
      go_upto_region 12 with (go_at_call 16; (with_reducible refine Calls.mono (wk_t2 hP _ tt2.out _ _ _ _ tx2.out tx3.out) ?_); rintro e w5 ⟨rfl, hb5⟩; have hb5' := Lib.hid hb5; clear hb5)
      have hB5' := below_on al2.out hb5'.out
      have hB5 := Lib.hid (below_on hB4.out hB5')
      have hx51 := Lib.hid (hx41.out.below hB5')
      have hx52 := Lib.hid (hx42.out.below hB5')
      have hk51 := hk41.out.below hB5' hk41.out.lt
      have hx53 := Lib.hid (hx43.out.below hB5')
      have hk53 := Lib.hid (hk43.out.below hB5' hk43.out.lt)
      have z5 := hB5'.size
      have k50 : w5.cell? ⟨w1.heap.size, 0, none⟩ = some (.slice A1 2 c1) := hk51.cell 0
      have k51 : w5.cell? ⟨w1.heap.size, 1, none⟩ = some (.slice A2 3 c2) := hk51.cell 1
      clear hB5' hb5' al2 tx2 tx3 tt2 hx41 hx42 hk41 hx43 hk43 hB4 hk51
      have tx5 : Hid (Txs ((w5.alloc (.cells #[.string ⟨#[97]⟩, .string ⟨#[98, 32, 99]⟩] 9)).alloc (.cells #[.string ⟨#[120]⟩, .string ⟨#[49]⟩, .string ⟨#[121]⟩, .string ⟨#[]⟩, .string ⟨#[122]⟩, .string ⟨#[97, 32, 98]⟩] 46)) (some ⟨w5.heap.size, 0, none⟩) wkT1.1) := Lib.hid (Txs.of_has (ls := wkT1.1) ((Has.new w5 9 (strsC wkT1.1).toArray).alloc (.cells (prsC wkT1.2).toArray 46)))
      have tx6 : Hid (Prs ((w5.alloc (.cells #[.string ⟨#[97]⟩, .string ⟨#[98, 32, 99]⟩] 9)).alloc (.cells #[.string ⟨#[120]⟩, .string ⟨#[49]⟩, .string ⟨#[121]⟩, .string ⟨#[]⟩, .string ⟨#[122]⟩, .string ⟨#[97, 32, 98]⟩] 46)) (some ⟨(w5.alloc (.cells #[.string ⟨#[97]⟩, .string ⟨#[98, 32, 99]⟩] 9)).heap.size, 0, none⟩) wkT1.2) := Lib.hid (Prs.of_has (qs := wkT1.2) (Has.new (w5.alloc (.cells (strsC wkT1.1).toArray 9)) 46 (prsC wkT1.2).toArray))
      rw [World.size_alloc] at tx6
      have al5 : Hid (Below w5.heap.size w5 ((w5.alloc (.cells #[.string ⟨#[97]⟩, .string ⟨#[98, 32, 99]⟩] 9)).alloc (.cells #[.string ⟨#[120]⟩, .string ⟨#[49]⟩, .string ⟨#[121]⟩, .string ⟨#[]⟩, .string ⟨#[122]⟩, .string ⟨#[97, 32, 98]⟩] 46))) := Lib.hid (((Below.refl w5.heap.size w5).alloc (Nat.le_refl _) _).alloc (by simp) _)
      have hy1 := Lib.hid (hx51.out.below al5.out)
      have hy2 := Lib.hid (hx52.out.below al5.out)
      go_wp2_with (first
        | (go_at_call 10; (with_reducible refine Calls.mono (num_any _ _) ?_); rintro e w9 ⟨rfl, hw9⟩; obtain rfl := hw9.symm)
        | (go_at_call 9; (with_reducible refine Calls.mono (wk_s1 _ _ _ _ _ hy1.out hy2.out _ _ tx5.out tx6.out) ?_); rintro e w6 ⟨rfl, hb6⟩; have hB6a := below_on al5.out hb6; have hB6 := Lib.hid (below_on hB5.out hB6a); have hk6 := hk53.out.below hB6a hk53.out.lt; have k60 : w6.cell? ⟨w3.heap.size, 0, none⟩ = some (.slice A3 1 c3) := hk6.cell 0; have k61 : w6.cell? ⟨w3.heap.size, 1, none⟩ = some (.slice A4 0 c4) := hk6.cell 1; have hx6 := Lib.hid (((hx53.out.below hB6a)).below ((Below.refl w6.heap.size w6).alloc (Nat.le_refl _) (.cells #[.string ⟨#[]⟩] 9))); have tx7 : Hid (Txs (w6.alloc (.cells #[.string ⟨#[]⟩] 9)) (some ⟨w6.heap.size, 0, none⟩) [[]]) := Lib.hid (Txs.of_has (ls := [[]]) (Has.new w6 9 (strsC [[]]).toArray)); clear hb6 hB6a hk6)
        | (go_at_call 9; (with_reducible refine Calls.mono (wk_s2 _ _ _ _ _ hx6.out _ tx7.out) ?_); rintro e w7 ⟨rfl, hb7⟩; have hB7 := Lib.hid (below_on hB6.out (below_on ((Below.refl w6.heap.size w6).alloc (Nat.le_refl _) (.cells #[.string ⟨#[]⟩] 9)) hb7)); clear hb7))
      go_ret
      exact ⟨rfl, hB7.out⟩
end Go.Proofs.YtcogdfgmmpfkkaaGreatDoor
