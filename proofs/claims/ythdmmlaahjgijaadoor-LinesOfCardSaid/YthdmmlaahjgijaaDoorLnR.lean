import Derived.Test.YthdmmlaahjgijaaDoorLnQ
import Derived.Test.YthdmmlaahjgijaaDoorN
namespace Go.Proofs.YthdmmlaahjgijaaDoor
open Go.RowKit Go.Shelf

/-! ## The chapter's rows -/
def strsV (ss : List (List UInt8)) : List Value := ss.map fun t => .string ⟨t.toArray⟩
def OfT (ss : List (List UInt8)) (w : World) (e : Ending) (w' : World) : Prop := ∃ A c, e = .returned (.slice A ss.length c) ∧ LnAt w' A (ss.map fun t => (t, false)) ∧ Below w.heap.size w w'
set_option maxRecDepth 100000 in
theorem ofT_any (k n : Nat) (ss : List (List UInt8)) (w : World) (h : Has w k 9 (strsV ss).toArray) (hn : n = ss.length) (hm : n ≤ 1000000) :
    Calls Tryd.prog 54 #[.slice (some ⟨k, 0, none⟩) n n] w (OfT ss w) := by
  have h' := Lib.hid h
  have hn' := Lib.hid hn
  have hk := h.lt
  clear h hn
  go_enter Tryd.func54, Tryd.ntmps54
  go_wp2
  go_loopw [3, 4] (fun v i W => ∃ j : Nat, i = .int .i64 (j : Int) ∧ j ≤ n ∧ Lns W w.heap.size v ((ss.take j).map fun t => (t, false)) ∧ Below w.heap.size w W) (fun _ i _ => n - (intOf i).toNat)
  case atStart => exact ⟨0, rfl, Nat.zero_le _, lns_nil _ _, Below.refl _ _⟩
  case round =>
    obtain ⟨j, rfl, hj, hv, hb⟩ := hrel
    have hv' := Lib.hid hv
    have hb' := Lib.hid hb
    have hbs := hb.size
    by_cases hlt : j < n
    · obtain ⟨t, ht⟩ : ∃ t, ss[j]? = some t := ⟨ss[j]'(by have := hn'.out; omega), List.getElem?_eq_getElem (by have := hn'.out; omega)⟩
      have hc : wr.cell? ⟨k, j, none⟩ = some (.string ⟨t.toArray⟩) := by
        rw [(h'.out.below hb hk).cell]
        simp [strsV, ht]
      have htk : (ss.take (j + 1)).map (fun t => (t, false)) = (ss.take j).map (fun t => (t, false)) ++ [(t, false)] := by rw [List.take_add_one, ht]; simp
      have htk' := Lib.hid htk
      have hln := Lib.hid (show ((ss.take j).map fun t => (t, false)).length + 1 ≤ 1099511627776 from by rw [List.length_map, List.length_take]; omega)
      have hv2 := Lib.hid (hv.below ((Below.refl _ _).alloc (Nat.le_refl _) (.cells #[.string ⟨t.toArray⟩, .bool false] 70)))
      have hnw := Lib.hid (Has.new wr 70 #[.string ⟨t.toArray⟩, .bool false])
      have hji : (j : Int) < (n : Int) := by omega
      clear hv hb ht htk
      go_wp2_with (at_builtin; refine wpList_append_line rfl _ _ rfl rfl hv2.out _ t false rfl hnw.out hln.out (by rw [World.size_alloc]; omega) ?_; intro v3 w3 hv3 hg3; have hv3' := Lib.hid hv3; have hg3' := Lib.hid hg3; clear hv3 hg3)
      refine ⟨⟨j + 1, by go_num, by omega, by rw [htk'.out]; exact hv3'.out, ?_⟩, by simp [intOf]; omega⟩
      exact ((hb'.out.alloc hbs _).grown hg3'.out (by simp; omega) (fun g e => (hv2.out.own g e).1))
    · obtain rfl : j = n := by omega
      obtain ⟨A, c, rfl, hat⟩ := hv.at
      rw [List.take_of_length_le (by have := hn'.out; omega)] at hat ⊢
      have hat' := Lib.hid hat
      rw [List.length_map]
      clear hv hb hat
      go_wp2
      go_ret
      exact ⟨_, _, rfl, hat'.out, hb'.out⟩
theorem LnAt.lit {W : World} {k : Nat} {xs : List (List UInt8 × Bool)} (h : Has W k 70 (linesC xs).toArray) : LnAt W (some ⟨k, 0, none⟩) xs := fun i x hx => by
  obtain ⟨h1, h2⟩ := linesC_get xs i x hx
  exact ⟨k, rfl, ⟨_, h⟩, by rw [h.cell]; simpa using h1, by rw [h.cell]; simpa using h2⟩
/-- A literal of bytes, that the program lays. -/
theorem lit_fr (w : World) (l : List UInt8) (cs : Array Value) (fr : Nat × Nat) (hcs : (byts l).toArray = cs) : Rd (w.alloc (.cells cs 5 fr)) (fun k => k < (w.alloc (.cells cs 5 fr)).heap.size ∧ w.heap.size ≤ k) (some ⟨w.heap.size, 0, none⟩) l := fun _ => by
  refine ⟨_, rfl, by simp, fun j u hu => ?_⟩
  rw [add_zero_, Nat.zero_add, cell_of_row _ _ j cs _ fr (World.alloc_heap_new w _), ← hcs]
  simpa using hu
def OfLit (ls : List (List UInt8 × Bool)) (m : Nat) (w : World) (e : Ending) (w' : World) : Prop := ∃ A c, e = .returned (.tuple #[.slice A m c, .int .i64 0]) ∧ LnAt w' A ls ∧ Below w.heap.size w w'
theorem ofL_lit (most n m : Nat) (lit : List UInt8) (ls : List (List UInt8 × Bool)) (cs : Array Value) (fr : Nat × Nat) (w : World) (hT : Tab w) (hE : Ends w) (hls : (stepC most init0 lit).1 = ls) (hm : ls.length = m) (hcs : (byts lit).toArray = cs) (hn : n = lit.length) (hl : lit.length ≤ 100) (hm1 : 1 ≤ most) (hm2 : most ≤ 65536) :
    Calls Tryd.prog 30 #[.int .i64 (most : Int), .slice (some ⟨w.heap.size, 0, none⟩) n n] (w.alloc (.cells cs 5 fr)) (OfLit ls m w) := by
  have hb : Below w.heap.size w (w.alloc (.cells cs 5 fr)) := (Below.refl _ _).alloc (Nat.le_refl _) _
  refine (ofL_yes most lit (some ⟨w.heap.size, 0, none⟩) n n _ hm1 hm2 hn (Nat.le_refl _) (by omega) (by omega) ((lit_fr w lit cs fr hcs).mono (fun k hk => hk.1)) (hT.below hb) (hE.below hb)).mono ?_
  rintro e w' ⟨v, rfl, h1, h2⟩
  rw [hls] at h1
  obtain ⟨A, c, rfl, h3⟩ := h1.at
  rw [hm]
  exact ⟨A, c, rfl, h3, hb.trans (h2.mono hb.size)⟩
def WroteLit (B sp dp most : Nat) (s' : CSt) (ls : List (List UInt8 × Bool)) (m : Nat) (w : World) (e : Ending) (w' : World) : Prop :=
  ∃ A c, e = .returned (.tuple #[.slice A m c, .int .i64 0]) ∧ LnAt w' A ls ∧ SpN w' B sp dp most s' ∧ Below B w w' ∧ (∀ A ls, LnAt w A ls → LnAt w' A ls)
theorem writeN_lit (B sp dp most n m : Nat) (s : CSt) (lit : List UInt8) (ls : List (List UInt8 × Bool)) (s' : CSt) (cs : Array Value) (fr : Nat × Nat) (w : World) (hs : SpN w B sp dp most s) (hok : s.ok most) (hT : Tab w) (hE : Ends w) (hTB : 0 < B) (hEB : 1 < B) (hB : B ≤ w.heap.size)
    (hls : stepC most s lit = (ls, s')) (hm : ls.length = m) (hcs : (byts lit).toArray = cs) (hn : n = lit.length) (hl : lit.length ≤ 100) (hm1 : 1 ≤ most) (hm2 : most ≤ 65536) :
    Calls Tryd.prog 39 #[.pointer (some ⟨sp, 0, none⟩), .slice (some ⟨w.heap.size, 0, none⟩) n n] (w.alloc (.cells cs 5 fr)) (WroteLit B sp dp most s' ls m w) := by
  have hb : Below w.heap.size w (w.alloc (.cells cs 5 fr)) := (Below.refl _ _).alloc (Nat.le_refl _) _
  refine (writeN_any B sp dp most s lit (some ⟨w.heap.size, 0, none⟩) n n w _ hs hb hok hm1 hm2 hn (Nat.le_refl _) (by omega) (by omega) ((lit_fr w lit cs fr hcs).mono (fun k hk => ⟨hk.1, .inr hk.2⟩)) (hT.below hb) (hE.below hb) hTB hEB hB).mono ?_
  rintro e w' ⟨v, rfl, h1, h2, h3, _, h5⟩
  rw [hls] at h1 h2
  obtain ⟨A, c, rfl, h6⟩ := h1.at
  simp only
  rw [hm]
  exact ⟨A, c, rfl, h6, h2, h3, h5⟩
/-! The rows' values. -/
def sA : CSt := (stepC 9 init0 [97, 13]).2
def sB : CSt := (stepC 9 sA [10, 98]).2
def sC : CSt := (stepC 9 sB [10]).2
theorem rw1 : (stepC 9 init0 [239, 187, 191, 97, 10, 98, 13, 10, 13, 99]).1 = [([97], false), ([98], false), ([], false)] := by decide +kernel
theorem rw2 : (stepC 2 init0 [97, 98, 99, 10, 100, 10]).1 = [([], true), ([100], false)] := by decide +kernel
theorem rw3 : stepC 9 init0 [97, 13] = ([([97], false)], sA) := Prod.ext (by decide +kernel) rfl
theorem rw4 : stepC 9 sA [10, 98] = ([], sB) := Prod.ext (by decide +kernel) rfl
theorem rw5 : stepC 9 sB [10] = ([([98], false)], sC) := Prod.ext (by decide +kernel) rfl
theorem rw6 : sC.l.bytes = [] ∧ sC.l.long = false := by decide +kernel
theorem okA : sA.ok 9 := stepC_ok (init0_ok 9) _
theorem okB : sB.ok 9 := stepC_ok okA _
end Go.Proofs.YthdmmlaahjgijaaDoor
namespace Go.Proofs.YthdmmlaahjgijaaDoor
open Go.RowKit Go.Shelf

theorem below_at {B : Nat} {a b c : World} (h : Below B a b) (k : Below b.heap.size b c) (hB : B ≤ b.heap.size) : Below B a c := h.trans (k.mono hB)
theorem sameLn_yes (A B : Option Addr) (xs : List (List UInt8 × Bool)) (n c d : Nat) (w : World) (hn : n = xs.length) (hA : LnAt w A xs) (hB : LnAt w B xs) (hxs : ∀ x ∈ xs, x.1.length ≤ 1000000) (hl : n ≤ 1099511627776) :
    Calls Tryd.prog 33 #[.slice A n c, .slice B n d] w fun e w' => e = .returned (.bool true) ∧ Below w.heap.size w w' := by
  have := sameLn_any A B xs xs n n c d w hn hn hA hB hxs hxs hl hl
  rw [decide_eq_true rfl] at this
  exact this
theorem ofT_lit (n : Nat) (ss : List (List UInt8)) (ls : List (List UInt8 × Bool)) (cs : Array Value) (w : World) (hcs : (strsV ss).toArray = cs) (hls : (ss.map fun t => (t, false)) = ls) (hn : ss.length = n) (hm : n ≤ 1000) :
    Calls Tryd.prog 54 #[.slice (some ⟨w.heap.size, 0, none⟩) n n] (w.alloc (.cells cs 9)) fun e w' => ∃ A c, e = .returned (.slice A n c) ∧ LnAt w' A ls ∧ Below w.heap.size w w' := by
  have hk := Has.new w 9 cs
  rw [← hcs] at hk ⊢
  refine (ofT_any w.heap.size n ss _ hk hn.symm (by omega)).mono ?_
  rintro e w' ⟨A, c, rfl, h1, h2⟩
  rw [hls] at h1
  rw [hn]
  exact ⟨A, c, rfl, h1, ((Below.refl w.heap.size w).alloc (Nat.le_refl _) _).trans (h2.mono (by simp))⟩
set_option maxRecDepth 100000 in
set_option maxHeartbeats 4000000 in
theorem worksL_any (w : World) (hT : Tab w) (hE : Ends w) : Calls Tryd.prog 29 #[] w fun e w' => e = .returned (.bool true) ∧ Below w.heap.size w w' := by
  have hT' := Lib.hid hT
  have hE' := Lib.hid hE
  have t1 := hT.lt
  have t2 := hE.lt
  clear hT hE
  have hcc := fun (w : World) (C : Array Value) (n c : Nat) => Lib.run_convert_bytes_const (P := Tryd.prog) w 22 5 C n c Tryd.underlying22 Tryd.underlying5
  go_enter Tryd.func29, Tryd.ntmps29
  go_wp2_with fail
  refine (ofL_lit 9 10 3 [239, 187, 191, 97, 10, 98, 13, 10, 13, 99] _ _ _ w hT'.out hE'.out rw1 rfl rfl rfl (by decide) (by decide) (by decide)).mono ?_
  rintro e w1 ⟨A1, c1, rfl, l1, hb1⟩
  have l1' := Lib.hid l1
  have hb1' := Lib.hid hb1
  have z1 := hb1.size
  clear l1 hb1
  go_wp2_with fail
  refine (ofL_lit 2 6 2 [97, 98, 99, 10, 100, 10] _ _ _ w1 (hT'.out.below hb1'.out) (hE'.out.below hb1'.out) rw2 rfl rfl rfl (by decide) (by decide) (by decide)).mono ?_
  rintro e w2 ⟨A2, c2, rfl, l2, hb2⟩
  have l12 := Lib.hid (l1'.out.below hb2)
  have l2' := Lib.hid l2
  have hb2' := Lib.hid (below_at hb1'.out hb2 z1)
  have z2 := hb2'.out.size
  clear l2 hb2 l1' hb1'
  go_wp2_with fail
  refine (newL_yes w.heap.size 9 w2 (by decide) (by decide)).mono ?_
  rintro e w3 ⟨sp, rfl, dp, hsp, hdp, hs3, hb3⟩
  have hsp0 : w.heap.size ≤ sp := by omega
  have hdp0 : w.heap.size ≤ dp := by omega
  have hs3' := Lib.hid (show SpN w3 w.heap.size sp dp 9 init0 from ⟨none, hs3, hsp0, hdp0⟩)
  have l13 := Lib.hid (l12.out.below hb3)
  have l23 := Lib.hid (l2'.out.below hb3)
  have hb3' := Lib.hid (below_at hb2'.out hb3 z2)
  have z3 := hb3'.out.size
  clear hs3 hb3 l12 l2' hb2'
  go_wp2_with fail
  refine (writeN_lit w.heap.size sp dp 9 2 1 init0 [97, 13] _ sA _ _ w3 hs3'.out (init0_ok 9) (hT'.out.below hb3'.out) (hE'.out.below hb3'.out) t1 t2 z3 rw3 rfl rfl rfl (by decide) (by decide) (by decide)).mono ?_
  rintro e w4 ⟨A4, c4, rfl, l4, hs4, hb4, k4⟩
  have l14 := Lib.hid (k4 _ _ l13.out)
  have l24 := Lib.hid (k4 _ _ l23.out)
  have l4' := Lib.hid l4
  have hs4' := Lib.hid hs4
  have hb4' := Lib.hid (hb3'.out.trans hb4)
  have z4 := hb4'.out.size
  clear l4 hs4 hb4 k4 l13 l23 hs3' hb3'
  go_wp2_with fail
  refine (writeN_lit w.heap.size sp dp 9 2 0 sA [10, 98] _ sB _ _ w4 hs4'.out okA (hT'.out.below hb4'.out) (hE'.out.below hb4'.out) t1 t2 z4 rw4 rfl rfl rfl (by decide) (by decide) (by decide)).mono ?_
  rintro e w5 ⟨A5, c5, rfl, _, hs5, hb5, k5⟩
  have l15 := Lib.hid (k5 _ _ l14.out)
  have l25 := Lib.hid (k5 _ _ l24.out)
  have l45 := Lib.hid (k5 _ _ l4'.out)
  have hs5' := Lib.hid hs5
  have hb5' := Lib.hid (hb4'.out.trans hb5)
  have z5 := hb5'.out.size
  clear hs5 hb5 k5 l14 l24 l4' hs4' hb4'
  go_wp2_with fail
  refine (writeN_lit w.heap.size sp dp 9 1 1 sB [10] _ sC _ _ w5 hs5'.out okB (hT'.out.below hb5'.out) (hE'.out.below hb5'.out) t1 t2 z5 rw5 rfl rfl rfl (by decide) (by decide) (by decide)).mono ?_
  rintro e w6 ⟨A6, c6, rfl, l6, hs6, hb6, k6⟩
  have l16 := Lib.hid (k6 _ _ l15.out)
  have l26 := Lib.hid (k6 _ _ l25.out)
  have l46 := Lib.hid (k6 _ _ l45.out)
  have l6' := Lib.hid l6
  have hs6' := Lib.hid hs6
  have hb6' := Lib.hid (hb5'.out.trans hb6)
  have z6 := hb6'.out.size
  clear l6 hs6 hb6 k6 l15 l25 l45 hs5' hb5' hcc
  go_wp2_with (go_at_call 34; (with_reducible refine Calls.mono (numLn_any _ _) ?_); rintro e w' ⟨rfl, rfl⟩)
  refine (ofT_lit 3 [[97], [98], []] _ _ w6 rfl rfl rfl (by decide)).mono ?_
  rintro e w7 ⟨A7, c7, rfl, l7, hb7⟩
  have l7' := Lib.hid l7
  have l17 := Lib.hid (l16.out.below hb7)
  have l27 := Lib.hid (l26.out.below hb7)
  have l47 := Lib.hid (l46.out.below hb7)
  have l67 := Lib.hid (l6'.out.below hb7)
  have hs7 := Lib.hid (hs6'.out.below hb7)
  have hb7' := Lib.hid (below_at hb6'.out hb7 z6)
  have z7 := hb7'.out.size
  clear l7 hb7 l16 l26 l46 l6' hs6' hb6'
  go_wp2_with fail
  refine (sameLn_yes A1 A7 _ 3 c1 c7 w7 rfl l17.out l7'.out (by decide) (by decide)).mono ?_
  rintro e w8 ⟨rfl, hb8⟩
  have l28 := Lib.hid (l27.out.below hb8)
  have l48 := Lib.hid (l47.out.below hb8)
  have l68 := Lib.hid (l67.out.below hb8)
  have hs8 := Lib.hid (hs7.out.below hb8)
  have hb8' := Lib.hid (below_at hb7'.out hb8 z7)
  have z8 := hb8'.out.size
  clear hb8 l17 l7' l27 l47 l67 hs7 hb7'
  go_wp2_with fail
  have hbl : Below w8.heap.size w8 (w8.alloc (.cells #[.string ⟨#[]⟩, .bool true, .string ⟨#[100]⟩, .bool false] 70)) := (Below.refl _ _).alloc (Nat.le_refl _) _
  refine (sameLn_yes A2 (some ⟨w8.heap.size, 0, none⟩) [([], true), ([100], false)] 2 c2 2 _ rfl (l28.out.below hbl) (LnAt.lit (Has.new w8 _ _)) (by decide) (by decide)).mono ?_
  rintro e w9 ⟨rfl, hb9⟩
  have hb89 := hbl.trans (hb9.mono hbl.size)
  have l49 := Lib.hid (l48.out.below hb89)
  have l69 := Lib.hid (l68.out.below hb89)
  have hs9 := Lib.hid (hs8.out.below hb89)
  have hb9' := Lib.hid (below_at hb8'.out hb89 z8)
  have z9 := hb9'.out.size
  clear hb9 hbl hb89 l28 l48 l68 hs8 hb8'
  go_wp2_with fail
  refine (ofT_lit 1 [[97]] _ _ w9 rfl rfl rfl (by decide)).mono ?_
  rintro e wA ⟨AA, cA, rfl, lA, hbA⟩
  have lA' := Lib.hid lA
  have l4A := Lib.hid (l49.out.below hbA)
  have l6A := Lib.hid (l69.out.below hbA)
  have hsA := Lib.hid (hs9.out.below hbA)
  have hbA' := Lib.hid (below_at hb9'.out hbA z9)
  have zA := hbA'.out.size
  clear lA hbA l49 l69 hs9 hb9'
  go_wp2_with fail
  refine (sameLn_yes A4 AA _ 1 c4 cA wA rfl l4A.out lA'.out (by decide) (by decide)).mono ?_
  rintro e wB ⟨rfl, hbB⟩
  have l6B := Lib.hid (l6A.out.below hbB)
  have hsB := Lib.hid (hsA.out.below hbB)
  have hbB' := Lib.hid (below_at hbA'.out hbB zA)
  have zB := hbB'.out.size
  clear hbB l4A lA' l6A hsA hbA'
  go_wp2_with fail
  refine (ofT_lit 1 [[98]] _ _ wB rfl rfl rfl (by decide)).mono ?_
  rintro e wC ⟨AC, cC, rfl, lC, hbC⟩
  have lC' := Lib.hid lC
  have l6C := Lib.hid (l6B.out.below hbC)
  have hsC := Lib.hid (hsB.out.below hbC)
  have hbC' := Lib.hid (below_at hbB'.out hbC zB)
  have zC := hbC'.out.size
  clear lC hbC l6B hsB hbB'
  go_wp2_with fail
  refine (sameLn_yes A6 AC _ 1 c6 cC wC rfl l6C.out lC'.out (by decide) (by decide)).mono ?_
  rintro e wD ⟨rfl, hbD⟩
  have hsD := Lib.hid (hsC.out.below hbD)
  have hbD' := Lib.hid (below_at hbC'.out hbD zC)
  have zD := hbD'.out.size
  clear hbD l6C lC' hsC hbC'
  have hwt : Hid (Calls Tryd.prog 41 #[.pointer (some ⟨sp, 0, none⟩)] wD fun e w' => e = .returned (.agg #[.string ⟨#[]⟩, .bool false]) ∧ Below wD.heap.size wD w') := Lib.hid (by
    obtain ⟨ob, h1, _⟩ := hsD.out
    have h := waitsL_any w.heap.size sp dp 9 ob sC wD h1 (by decide)
    rw [rw6.1, rw6.2] at h
    exact h)
  have heq := fun w => line_equal [] [] false false (by decide) (by decide) w
  rw [decide_eq_true rfl] at heq
  go_wp2_with (go_at_call 41; (with_reducible refine Calls.mono hwt.out ?_); rintro e wE ⟨rfl, hbE⟩; have hbE' := Lib.hid hbE; clear hbE)
  go_ret
  exact ⟨rfl, below_at hbD'.out hbE'.out zD⟩
end Go.Proofs.YthdmmlaahjgijaaDoor
