import Derived.Test.YtlcfpnegpihicaaGreatDoorPw29
import Derived.Deep.Cut
import Derived.Deep.CutRange
import Derived.Deep.RegionHeld3
namespace Go.Proofs.YtlcfpnegpihicaaGreatDoor
open Go.RowKit Go.Shelf
attribute [local go_sem] Oper.semAt_some

/-! ## The law of a parser, piece by piece -/
set_option maxRecDepth 100000 in
theorem writesP_works (x y : Int) (A : Option Addr) (n c : Nat) (zr : Bool) (w : World) (hT : PsT0 w) (hl : 30 < n) (hm : n ≤ maxLen) :
    Calls Tryz.prog 4 #[.int .i64 x, .int .i64 y, .slice A n c, .bool zr] w fun e w' => e = .returned (.bool true) ∧ Below w.heap.size w w' := by
  unfold maxLen at hm
  have hw := Lib.hid (worksPs_any w hT)
  clear hT
  go_enter Tryz.func4, Tryz.ntmps4
  go_wp2_with (go_at_call 6; refine hw.out.mono ?_; rintro e w9 ⟨rfl, hb9⟩)
  go_ret
  exact ⟨rfl, hb9⟩
set_option maxRecDepth 100000 in
set_option maxHeartbeats 4000000 in
theorem lawWritesPs_no (x y : Int) (A : Option Addr) (n c : Nat) (z : Bool) (w : World) (hT : PsT0 w) (hl : n ≤ 30) (h : (x < 1 ∨ 65536 < x) ∨ (y < 1 ∨ 65536 < y)) :
    Calls Tryz.prog 4 #[.int .i64 x, .int .i64 y, .slice A n c, .bool z] w fun e w' => e = .returned (.bool true) ∧ Below w.heap.size w w' := by
  have hT' := Lib.hid hT
  have hnw := Lib.hid (newPs_no x y w hT.g h)
  have hrn0 := fun W => refNewPs_no x y W h
  unfold rpC rfNew at hrn0
  have hrn := Lib.hid hrn0
  clear hT h hrn0
  go_enter Tryz.func4, Tryz.ntmps4
  go_upto_region 5 with (first
    | (go_at_call 12; (with_reducible refine Calls.mono hnw.out ?_); rintro e w1 ⟨rfl, hb1⟩; have hb1' := Lib.hid hb1; clear hb1)
    | (go_at_call 13; (with_reducible refine Calls.mono (hrn.out _) ?_); rintro e w2 ⟨rfl, hb2⟩; have hb2' := Lib.hid hb2; clear hb2))
  have z1 := hb1'.out.size
  have hb12 := hb1'.out.trans (hb2'.out.mono z1)
  have hb3 : Below w.heap.size w (w2.alloc (.cells #[.slice none 0 0, .int .i64 0, .string ⟨#[]⟩, .bool false, .bool false, .int .i64 0, .string ⟨#[]⟩, .string ⟨#[]⟩, .string ⟨#[]⟩, .bool false, .bool false] 51)) := hb12.alloc hb12.size _
  obtain ⟨w3, hw3⟩ : ∃ w3, w2.alloc (.cells #[.slice none 0 0, .int .i64 0, .string ⟨#[]⟩, .bool false, .bool false, .int .i64 0, .string ⟨#[]⟩, .string ⟨#[]⟩, .string ⟨#[]⟩, .bool false, .bool false] 51) = w3 := ⟨_, rfl⟩
  rw [hw3] at hb3 ⊢
  have hb3' := Lib.hid hb3
  clear hw3 hb3 hb12
  go_wp2_with (go_at_call 11; (with_reducible refine Calls.mono (numPs_any _ _) ?_); rintro e w' ⟨rfl, rfl⟩)
  go_loopw [13] (fun v13 W => v13 = .int .i64 0 ∧ w3 = W) (fun _ _ => 0)
  case atStart => exact ⟨rfl, rfl⟩
  case round =>
    obtain ⟨rfl, hw⟩ := hrel
    have hBr : Below w.heap.size w wr := by rw [← hw]; exact hb3'.out
    have hzr := hBr.size
    have hB0 := Lib.hid hBr
    clear hw hBr
    by_cases h0n : (0 : Int) < (n : Int)
    · skip
      have hwk := Lib.hid (fun (W : World) (hb : Below wr.heap.size wr W) => worksPs_any W (hT'.out.below (hB0.out.trans (hb.mono hzr))))
      cases z with
      | false =>
        have hwn := Lib.hid (writePs_none none none 0 0 wr (.inl rfl))
        have hen := Lib.hid (fun (W : World) => resetPs_none none ⟨#[]⟩ W (.inl rfl))
        have hla := Lib.hid (fun (W : World) => lastId_none none W (.inl rfl))
        have hwa := Lib.hid (fun (W : World) => waitsPs_none none W (.inl rfl))
        have hco := Lib.hid (fun (W : World) => copyPs_none none W (.inl rfl))
        go_wp2_with (first
          | (go_at_call 17; (with_reducible refine Calls.mono hwn.out ?_); rintro e w2 ⟨rfl, hb2⟩; have hb2' := Lib.hid hb2; clear hb2)
          | (go_at_call 15; (with_reducible refine Calls.mono (hen.out _) ?_); rintro e w3 ⟨rfl, rfl⟩)
          | (go_at_call 11; (with_reducible refine Calls.mono (numPs_any _ _) ?_); rintro e w4 ⟨rfl, rfl⟩)
          | (go_at_call 18; (with_reducible refine Calls.mono (hla.out _) ?_); rintro e w5 ⟨rfl, rfl⟩)
          | (go_at_call 19; (with_reducible refine Calls.mono (hwa.out _) ?_); rintro e w5 ⟨rfl, rfl⟩)
          | (go_at_call 20; (with_reducible refine Calls.mono (hco.out _) ?_); rintro e w6 ⟨rfl, rfl⟩)
          | (go_at_call 6; (with_reducible refine Calls.mono (hwk.out _ hb2'.out) ?_); rintro e w7 ⟨rfl, hb7⟩))
        go_ret
        exact ⟨rfl, hB0.out.trans ((hb2'.out.trans (hb7.mono hb2'.out.size)).mono hzr)⟩
      | true =>
        have k1 := Has.new wr 71 #[.pointer none, .string ⟨#[]⟩, .slice none 0 0, .bool false, .string ⟨#[]⟩, .int .i64 0, .int .i64 0]
        have hb1 := (Below.refl wr.heap.size wr).alloc (Nat.le_refl _) (.cells #[.pointer none, .string ⟨#[]⟩, .slice none 0 0, .bool false, .string ⟨#[]⟩, .int .i64 0, .int .i64 0] 71)
        obtain ⟨w1, hw1⟩ : ∃ w1, wr.alloc (.cells #[.pointer none, .string ⟨#[]⟩, .slice none 0 0, .bool false, .string ⟨#[]⟩, .int .i64 0, .int .i64 0] 71) = w1 := ⟨_, rfl⟩
        have hw1' := Lib.hid hw1
        rw [hw1] at k1 hb1
        clear hw1
        have hno : ∀ W, Below w1.heap.size w1 W → NoP W (some ⟨wr.heap.size, 0, none⟩) := fun W hb => .inr ⟨wr.heap.size, rfl, (k1.below hb k1.lt).cell 5⟩
        have hwn := Lib.hid (writePs_none (some ⟨wr.heap.size, 0, none⟩) none 0 0 w1 (hno _ (Below.refl _ _)))
        have hen := Lib.hid (fun (W : World) (hb : Below w1.heap.size w1 W) => resetPs_none _ ⟨#[]⟩ W (hno W hb))
        have hla := Lib.hid (fun (W : World) (hb : Below w1.heap.size w1 W) => lastId_none _ W (hno W hb))
        have hwa := Lib.hid (fun (W : World) (hb : Below w1.heap.size w1 W) => waitsPs_none _ W (hno W hb))
        have hco := Lib.hid (fun (W : World) (hb : Below w1.heap.size w1 W) => copyPs_none _ W (hno W hb))
        have hb1' := Lib.hid hb1
        clear hno k1 hb1
        go_upto_region 29 with (fail)
        rw [hw1'.out]
        go_wp2_with (first
          | (go_at_call 17; (with_reducible refine Calls.mono hwn.out ?_); rintro e w2 ⟨rfl, hb2⟩; have hb2' := Lib.hid hb2; have hb6' := Lib.hid (hb1'.out.trans (hb2.mono hb1'.out.size)); clear hb2)
          | (go_at_call 15; (with_reducible refine Calls.mono (hen.out _ hb2'.out) ?_); rintro e w3 ⟨rfl, rfl⟩)
          | (go_at_call 11; (with_reducible refine Calls.mono (numPs_any _ _) ?_); rintro e w4 ⟨rfl, rfl⟩)
          | (go_at_call 18; (with_reducible refine Calls.mono (hla.out _ hb2'.out) ?_); rintro e w5 ⟨rfl, rfl⟩)
          | (go_at_call 19; (with_reducible refine Calls.mono (hwa.out _ hb2'.out) ?_); rintro e w5 ⟨rfl, rfl⟩)
          | (go_at_call 20; (with_reducible refine Calls.mono (hco.out _ hb2'.out) ?_); rintro e w6 ⟨rfl, rfl⟩)
          | (go_at_call 6; (with_reducible refine Calls.mono (hwk.out _ hb6'.out) ?_); rintro e w7 ⟨rfl, hb7⟩))
        go_ret
        exact ⟨rfl, hB0.out.trans ((hb6'.out.trans (hb7.mono hb6'.out.size)).mono hzr)⟩
    · skip
      have hwk := Lib.hid (fun (W : World) (hb : Below wr.heap.size wr W) => worksPs_any W (hT'.out.below (hB0.out.trans (hb.mono hzr))))
      cases z with
      | false =>
        have hwn := Lib.hid (writePs_none none none 0 0 wr (.inl rfl))
        have hen := Lib.hid (fun (W : World) => resetPs_none none ⟨#[]⟩ W (.inl rfl))
        have hla := Lib.hid (fun (W : World) => lastId_none none W (.inl rfl))
        have hwa := Lib.hid (fun (W : World) => waitsPs_none none W (.inl rfl))
        have hco := Lib.hid (fun (W : World) => copyPs_none none W (.inl rfl))
        go_wp2_with (first
          | (go_at_call 17; (with_reducible refine Calls.mono hwn.out ?_); rintro e w2 ⟨rfl, hb2⟩; have hb2' := Lib.hid hb2; clear hb2)
          | (go_at_call 15; (with_reducible refine Calls.mono (hen.out _) ?_); rintro e w3 ⟨rfl, rfl⟩)
          | (go_at_call 11; (with_reducible refine Calls.mono (numPs_any _ _) ?_); rintro e w4 ⟨rfl, rfl⟩)
          | (go_at_call 18; (with_reducible refine Calls.mono (hla.out _) ?_); rintro e w5 ⟨rfl, rfl⟩)
          | (go_at_call 19; (with_reducible refine Calls.mono (hwa.out _) ?_); rintro e w5 ⟨rfl, rfl⟩)
          | (go_at_call 20; (with_reducible refine Calls.mono (hco.out _) ?_); rintro e w6 ⟨rfl, rfl⟩)
          | (go_at_call 6; (with_reducible refine Calls.mono (hwk.out _ hb2'.out) ?_); rintro e w7 ⟨rfl, hb7⟩))
        go_ret
        exact ⟨rfl, hB0.out.trans ((hb2'.out.trans (hb7.mono hb2'.out.size)).mono hzr)⟩
      | true =>
        have k1 := Has.new wr 71 #[.pointer none, .string ⟨#[]⟩, .slice none 0 0, .bool false, .string ⟨#[]⟩, .int .i64 0, .int .i64 0]
        have hb1 := (Below.refl wr.heap.size wr).alloc (Nat.le_refl _) (.cells #[.pointer none, .string ⟨#[]⟩, .slice none 0 0, .bool false, .string ⟨#[]⟩, .int .i64 0, .int .i64 0] 71)
        obtain ⟨w1, hw1⟩ : ∃ w1, wr.alloc (.cells #[.pointer none, .string ⟨#[]⟩, .slice none 0 0, .bool false, .string ⟨#[]⟩, .int .i64 0, .int .i64 0] 71) = w1 := ⟨_, rfl⟩
        have hw1' := Lib.hid hw1
        rw [hw1] at k1 hb1
        clear hw1
        have hno : ∀ W, Below w1.heap.size w1 W → NoP W (some ⟨wr.heap.size, 0, none⟩) := fun W hb => .inr ⟨wr.heap.size, rfl, (k1.below hb k1.lt).cell 5⟩
        have hwn := Lib.hid (writePs_none (some ⟨wr.heap.size, 0, none⟩) none 0 0 w1 (hno _ (Below.refl _ _)))
        have hen := Lib.hid (fun (W : World) (hb : Below w1.heap.size w1 W) => resetPs_none _ ⟨#[]⟩ W (hno W hb))
        have hla := Lib.hid (fun (W : World) (hb : Below w1.heap.size w1 W) => lastId_none _ W (hno W hb))
        have hwa := Lib.hid (fun (W : World) (hb : Below w1.heap.size w1 W) => waitsPs_none _ W (hno W hb))
        have hco := Lib.hid (fun (W : World) (hb : Below w1.heap.size w1 W) => copyPs_none _ W (hno W hb))
        have hb1' := Lib.hid hb1
        clear hno k1 hb1
        go_upto_region 29 with (fail)
        rw [hw1'.out]
        go_wp2_with (first
          | (go_at_call 17; (with_reducible refine Calls.mono hwn.out ?_); rintro e w2 ⟨rfl, hb2⟩; have hb2' := Lib.hid hb2; have hb6' := Lib.hid (hb1'.out.trans (hb2.mono hb1'.out.size)); clear hb2)
          | (go_at_call 15; (with_reducible refine Calls.mono (hen.out _ hb2'.out) ?_); rintro e w3 ⟨rfl, rfl⟩)
          | (go_at_call 11; (with_reducible refine Calls.mono (numPs_any _ _) ?_); rintro e w4 ⟨rfl, rfl⟩)
          | (go_at_call 18; (with_reducible refine Calls.mono (hla.out _ hb2'.out) ?_); rintro e w5 ⟨rfl, rfl⟩)
          | (go_at_call 19; (with_reducible refine Calls.mono (hwa.out _ hb2'.out) ?_); rintro e w5 ⟨rfl, rfl⟩)
          | (go_at_call 20; (with_reducible refine Calls.mono (hco.out _ hb2'.out) ?_); rintro e w6 ⟨rfl, rfl⟩)
          | (go_at_call 6; (with_reducible refine Calls.mono (hwk.out _ hb6'.out) ?_); rintro e w7 ⟨rfl, hb7⟩))
        go_ret
        exact ⟨rfl, hB0.out.trans ((hb6'.out.trans (hb7.mono hb6'.out.size)).mono hzr)⟩
set_option maxRecDepth 100000 in
set_option maxHeartbeats 6000000 in
theorem lawWritesPs (l m : Nat) (A : Option Addr) (n c : Nat) (z : Bool) (xs : List Pc) (w : World) (hT : PsT0 w) (hn : n = xs.length) (hA : LP w A xs) (hl : n ≤ 30) (h1 : 1 ≤ l) (h2 : l ≤ 65536) (h3 : 1 ≤ m) (h4 : m ≤ 65536) :
    Calls Tryz.prog 4 #[.int .i64 (l : Int), .int .i64 (m : Int), .slice A n c, .bool z] w fun e w' => e = .returned (.bool true) ∧ Below w.heap.size w w' := by
  have hT' := Lib.hid hT
  have hn' := Lib.hid hn
  have hA' := Lib.hid hA
  have hlow := Lib.hid hT.low
  have hnw := Lib.hid (newPs_yes w.heap.size l m w hT.g h1 h2 h3 h4)
  have hrn0 := fun W => refNewPs_yes l m W h1 h2 h3 h4
  unfold rpC rfNew at hrn0
  have hrn := Lib.hid hrn0
  clear hT hn hA hrn0
  go_enter Tryz.func4, Tryz.ntmps4
  go_upto_region 5 with (first
    | (go_at_call 12; (with_reducible refine Calls.mono hnw.out ?_); rintro e w1 ⟨p, rfl, sp, dp, hp1, hsp1, hdp1, hpr, hso, hb1⟩; have hpr' := Lib.hid hpr; have hso' := Lib.hid hso; have hb1' := Lib.hid hb1; clear hpr hso hb1)
    | (go_at_call 13; (with_reducible refine Calls.mono (hrn.out _) ?_); rintro e w2 ⟨rfl, hb2⟩; have hb2' := Lib.hid hb2; clear hb2))
  have z1 := hb1'.out.size
  have z2 := hb2'.out.size
  have hb3 : Below w2.heap.size w2 (w2.alloc (.cells (rpC none 0 0 l m [] false false (rfNew [])) 51)) := (Below.refl _ _).alloc (Nat.le_refl _) _
  have hPs1 : PsAt w1 w.heap.size p sp dp l m (.slice none 0 0) none init0 (prNew []) := ⟨hpr'.out, bs_nil _ _, hso'.out, fun g hg => by cases hg⟩
  have hS0 : StP w w2.heap.size l m p initR (rfNew []) (prNew []) (w2.alloc (.cells (rpC none 0 0 l m [] false false (rfNew [])) 51)) := by
    refine ⟨sp, dp, .slice none 0 0, none, none, 0, ?_, ⟨hp1, hsp1, hdp1⟩, ?_, by omega, Has.new w2 _ _, fun h => absurd h (by simp [initR]), ⟨by simp [initR], by simp [initR]⟩, by rw [absC_init]; exact init0_ok l, relP_new [], prNil_ok m l, Nat.zero_le _⟩
    · rw [absC_init]; exact (hPs1.below hb2'.out).below hb3
    · exact (hb1'.out.trans (hb2'.out.mono z1)).trans (hb3.mono (by omega))
  unfold rpC rfNew at hS0
  obtain ⟨q, hq⟩ : ∃ q, w2.heap.size = q := ⟨_, rfl⟩
  obtain ⟨w3, hw3⟩ : ∃ w3, w2.alloc (.cells #[.slice none 0 0, .int .i64 (l : Int), .string ⟨#[]⟩, .bool false, .bool false, .int .i64 (m : Int), .string ⟨#[]⟩, .string ⟨#[]⟩, .string ⟨#[]⟩, .bool false, .bool false] 51) = w3 := ⟨_, rfl⟩
  rw [hw3, hq] at hS0
  rw [hw3, hq]
  have hS0' := Lib.hid hS0
  clear hS0 hw3 hb3 hq z2 hPs1 hpr' hso'
  go_wp2_with (go_at_call 11; (with_reducible refine Calls.mono (numPs_any _ _) ?_); rintro e w' ⟨rfl, rfl⟩)
  go_loopw [9, 13] (fun v9 v13 W => ∃ (k p : Nat) (r : RSt) (rf : RfS) (s : PrS), v9 = .pointer (some ⟨p, 0, none⟩) ∧ v13 = .int .i64 (k : Int) ∧ k ≤ n ∧ StP w q l m p r rf s W) (fun _ v13 _ => n - (intOf v13).toNat)
  case atStart => exact ⟨0, p, initR, rfNew [], prNew [], rfl, rfl, Nat.zero_le _, hS0'.out⟩
  case round =>
    obtain ⟨k, p, r, rf, s, rfl, rfl, hk, hS⟩ := hrel
    have hS' := Lib.hid hS
    have hBr : Below w.heap.size w wr := by obtain ⟨_, _, _, _, _, _, _, _, h, _⟩ := hS; exact h
    have hzr := hBr.size
    by_cases hlt : k < n
    · have hki : (k : Int) < (n : Int) := by omega
      have hkn : (0 : Int) ≤ (k : Int) := by omega
      obtain ⟨⟨x, rs, cp, id⟩, hx⟩ : ∃ x, xs[k]? = some x := ⟨xs[k]'(by have := hn'.out; omega), List.getElem?_eq_getElem (by have := hn'.out; omega)⟩
      obtain ⟨b, o, rfl, hbw, hcell⟩ := hA'.out (by have := hn'.out; omega)
      obtain ⟨Ai, ci, hc1, hxc1, hxc2, hri, hidm⟩ := hcell k _ hx
      simp only at hc1 hxc1 hxc2 hri hidm
      have hlc : ∀ W, Below w.heap.size w W → W.cell? ⟨b, o + k * 4, none⟩ = some (.slice Ai x.length ci) ∧ W.cell? ⟨b, o + k * 4 + 1, none⟩ = some (.bool rs) ∧ W.cell? ⟨b, o + k * 4 + 2, none⟩ = some (.bool cp) ∧ W.cell? ⟨b, o + k * 4 + 3, none⟩ = some (.string ⟨id.toArray⟩) := fun W hb => ⟨(hb.cell (p := ⟨b, o + k * 4, none⟩) hbw).trans hc1.1, (hb.cell (p := ⟨b, o + k * 4 + 1, none⟩) hbw).trans hc1.2.1, (hb.cell (p := ⟨b, o + k * 4 + 2, none⟩) hbw).trans hc1.2.2.1, (hb.cell (p := ⟨b, o + k * 4 + 3, none⟩) hbw).trans hc1.2.2.2⟩
      have hli := Lib.hid (fun W (hb : Below w.heap.size w W) => rd_belowP hri hb (Nat.le_refl _))
      have hri' := Lib.hid hri
      obtain ⟨mx, hmx⟩ : ∃ mx, x.length = mx := ⟨_, rfl⟩
      rw [hmx] at hlc hxc1
      have hidz : (⟨id.toArray⟩ : ByteArray).size = id.length := size_mk id
      obtain ⟨bi, hbi⟩ : ∃ bi : ByteArray, (⟨id.toArray⟩ : ByteArray) = bi := ⟨_, rfl⟩
      rw [hbi] at hlc hidz
      have hbi' := Lib.hid hbi
      obtain ⟨il, hil⟩ : ∃ il, id.length = il := ⟨_, rfl⟩
      rw [hil] at hidz hidm
      have hil' := Lib.hid hil
      unfold maxLen at hidm
      obtain ⟨e1, e2, e3, e4⟩ := hlc wr hBr
      have hlc' := Lib.hid hlc
      have hm' := Lib.hid hmx
      have hBr' := Lib.hid hBr
      have hTr := Lib.hid (hT'.out.below hBr)
      clear hcell hc1 hri hlc hBr hS hmx hx hbi hil
      by_cases h80 : 80 < mx
      · have h80i : (80 : Int) < (mx : Int) := by omega
        go_wp2_with (go_at_call 6; (with_reducible refine Calls.mono (worksPs_any _ hTr.out) ?_); rintro e w9 ⟨rfl, hb9⟩)
        go_ret
        exact ⟨rfl, belowP_at hBr'.out hb9 hzr⟩
      · have h80i : ¬ (80 : Int) < (mx : Int) := by omega
        by_cases h81 : 80 < il
        · have h81i : (80 : Int) < (il : Int) := by omega
          go_wp2_with (go_at_call 6; (with_reducible refine Calls.mono (worksPs_any _ hTr.out) ?_); rintro e w9 ⟨rfl, hb9⟩)
          go_ret
          exact ⟨rfl, belowP_at hBr'.out hb9 hzr⟩
        · have h81i : ¬ (80 : Int) < (il : Int) := by omega
          go_upto_if 82 with (fail)
          go_cut [9] from 51 to 164 (fun s9 wx => ∃ (p : Nat) (r : RSt) (rf : RfS) (s : PrS), s9 = .pointer (some ⟨p, 0, none⟩) ∧ StP w q l m p r rf s wx)
          case first =>
            cases rs with
            | false =>
              go_wp2_with fail
              go_meet
              case rel => exact ⟨p, r, rf, s, rfl, hS'.out⟩
            | true =>
              obtain ⟨sp, dp, dv, ob, A1, c1, g1, g2, g3, g4q, g5, g6, g7, g8, g9⟩ := hS'.out
              have hqn' := Lib.hid (psAt_ne g1 g5)
              obtain ⟨rl, hrl⟩ : ∃ rl, r.ws.length = rl := ⟨_, rfl⟩
              rw [hrl] at g5
              have hrl' := Lib.hid hrl
              have g1' := Lib.hid g1
              have g5' := Lib.hid g5
              have g6' := Lib.hid g6
              have g8' := Lib.hid g8
              have g9' := Lib.hid g9
              clear g1 g3 g5 g6 g8 g9 hrl
              by_cases hrt : rightE (id, [], []) = true
              · skip
                go_upto_region 13 with (fail)
                have hres := Lib.hid (fun W => refResetPs_yes A1 rl c1 l m r.line id r.any r.half rf W h1 h2 h3 h4 (by have := hil'.out; omega) hrt)
                unfold rpC at hres
                unfold rfNew at hres
                simp only at hres
                rw [hbi'.out] at hres
                have hK : Hid (∀ W, Below wr.heap.size wr W → (W.cell? ⟨q, 0, none⟩ = some (.slice A1 rl c1) ∧ W.cell? ⟨q, 1, none⟩ = some (.int .i64 (l : Int)) ∧ W.cell? ⟨q, 2, none⟩ = some (.string ⟨r.line.toArray⟩) ∧ W.cell? ⟨q, 3, none⟩ = some (.bool r.any) ∧ W.cell? ⟨q, 4, none⟩ = some (.bool r.half) ∧ W.cell? ⟨q, 5, none⟩ = some (.int .i64 (m : Int)) ∧ W.cell? ⟨q, 6, none⟩ = some (.string ⟨rf.id.toArray⟩) ∧ W.cell? ⟨q, 7, none⟩ = some (.string ⟨rf.type.toArray⟩) ∧ W.cell? ⟨q, 8, none⟩ = some (.string ⟨rf.data.toArray⟩) ∧ W.cell? ⟨q, 9, none⟩ = some (.bool rf.some) ∧ W.cell? ⟨q, 10, none⟩ = some (.bool rf.long)) ∧ W.cell? ⟨b, o + k * 4 + 3, none⟩ = some (.string bi)) := Lib.hid (fun W hb => by
                  have hk := g5'.out.below hb g5'.out.lt
                  exact ⟨⟨hk.cell 0, hk.cell 1, hk.cell 2, hk.cell 3, hk.cell 4, hk.cell 5, hk.cell 6, hk.cell 7, hk.cell 8, hk.cell 9, hk.cell 10⟩, (hlc'.out W (hBr'.out.trans (hb.mono hzr))).2.2.2⟩)
                have hbd := Lib.hid ((Below.refl wr.heap.size wr).drew)
                have hbZ := Lib.hid (((Below.refl wr.heap.size wr).alloc (Nat.le_refl _) (.cells #[.slice none 0 0, .int .i64 0, .string ⟨#[]⟩, .bool false, .bool false, .int .i64 0, .string ⟨#[]⟩, .string ⟨#[]⟩, .string ⟨#[]⟩, .bool false, .bool false] 51)).drew)
                have kZ := Lib.hid ((Has.new wr 51 #[.slice none 0 0, .int .i64 0, .string ⟨#[]⟩, .bool false, .bool false, .int .i64 0, .string ⟨#[]⟩, .string ⟨#[]⟩, .string ⟨#[]⟩, .bool false, .bool false]).drew)
                go_cut [14, 15] from 51 to 164 (fun s14 s15 wx => ∃ zb : Nat, s14 = .pointer (some ⟨zb, 0, none⟩) ∧ s15 = .int .i64 0 ∧ wr.heap.size ≤ zb ∧ Has wx zb 51 #[.slice none 0 0, .int .i64 (l : Int), .string ⟨#[]⟩, .bool false, .bool false, .int .i64 (m : Int), .string bi, .string ⟨#[]⟩, .string ⟨#[]⟩, .bool false, .bool false] ∧ Below wr.heap.size wr wx)
                case first =>
                  go_region_held3 (fun W => (W.cell? ⟨q, 0, none⟩ = some (.slice A1 rl c1) ∧ W.cell? ⟨q, 1, none⟩ = some (.int .i64 (l : Int)) ∧ W.cell? ⟨q, 2, none⟩ = some (.string ⟨r.line.toArray⟩) ∧ W.cell? ⟨q, 3, none⟩ = some (.bool r.any) ∧ W.cell? ⟨q, 4, none⟩ = some (.bool r.half) ∧ W.cell? ⟨q, 5, none⟩ = some (.int .i64 (m : Int)) ∧ W.cell? ⟨q, 6, none⟩ = some (.string ⟨rf.id.toArray⟩) ∧ W.cell? ⟨q, 7, none⟩ = some (.string ⟨rf.type.toArray⟩) ∧ W.cell? ⟨q, 8, none⟩ = some (.string ⟨rf.data.toArray⟩) ∧ W.cell? ⟨q, 9, none⟩ = some (.bool rf.some) ∧ W.cell? ⟨q, 10, none⟩ = some (.bool rf.long)) ∧ W.cell? ⟨b, o + k * 4 + 3, none⟩ = some (.string bi))
                    (first
                    | with_reducible exact hK.out _ hbd.out
                    | with_reducible exact hK.out _ hbZ.out
                    | with_reducible exact hK.out _ hbw.out
                    | with_reducible exact hK.out _ (hbv.out _)
                    | (refine hK.out _ ?_; repeat' (first | with_reducible exact hbw.out | with_reducible refine Below.drew ?_ | with_reducible refine Below.alloc ?_ ?_ _ | with_reducible refine Below.setCell ?_ ?_ _ | omega | (simp only [World.size_alloc, World.size_setCell, World.size_drew]; omega) | (simp; omega)))
                    | fail)
                    (first
                    | (go_at_call 14; (with_reducible refine Calls.mono (hres.out (wr.drew)) ?_); rintro e w2 ⟨rfl, hb2⟩; have hbw := Lib.hid (hbd.out.trans (hb2.mono hbd.out.size)); have hsw := hbw.out.size; have hbv := Lib.hid (fun o => hbw.out.alloc hbw.out.size o); clear hb2)
                    | (go_at_call 14; (with_reducible refine Calls.mono (hres.out ((wr.alloc (.cells #[.slice none 0 0, .int .i64 0, .string ⟨#[]⟩, .bool false, .bool false, .int .i64 0, .string ⟨#[]⟩, .string ⟨#[]⟩, .string ⟨#[]⟩, .bool false, .bool false] 51)).drew)) ?_); rintro e w2 ⟨rfl, hb2⟩; have hbw := Lib.hid (hbZ.out.trans (hb2.mono hbZ.out.size)); have hsw := hbw.out.size; have hbv := Lib.hid (fun o => hbw.out.alloc hbw.out.size o); have nP := kZ.out.below hb2 kZ.out.lt; have cP0 := nP.cell 0; have fP0 := nP.free 0; have cP1 := nP.cell 1; have fP1 := nP.free 1; have cP2 := nP.cell 2; have fP2 := nP.free 2; have cP3 := nP.cell 3; have fP3 := nP.free 3; have cP4 := nP.cell 4; have fP4 := nP.free 4; have cP5 := nP.cell 5; have fP5 := nP.free 5; have cP6 := nP.cell 6; have fP6 := nP.free 6; have cP7 := nP.cell 7; have fP7 := nP.free 7; have cP8 := nP.cell 8; have fP8 := nP.free 8; have cP9 := nP.cell 9; have fP9 := nP.free 9; have cP10 := nP.cell 10; have fP10 := nP.free 10; have nPH := Lib.hid nP; clear nP hb2)
                    | fail)
                  · go_wp2_with fail
                    go_meet
                    case rel => exact ⟨_, rfl, rfl, hsw, Has.new w2 _ _, hbv.out _⟩
                  · go_wp2_with fail
                    go_meet
                    case rel =>
                      have hP := has_set11 nPH.out (.slice none 0 0) (.int .i64 (l : Int)) (.string ⟨#[]⟩) (.bool false) (.bool false) (.int .i64 (m : Int)) (.string bi) (.string ⟨#[]⟩) (.string ⟨#[]⟩) (.bool false) (.bool false)
                      have hC := chg_set11 w2 wr.heap.size (.slice none 0 0) (.int .i64 (l : Int)) (.string ⟨#[]⟩) (.bool false) (.bool false) (.int .i64 (m : Int)) (.string bi) (.string ⟨#[]⟩) (.string ⟨#[]⟩) (.bool false) (.bool false)
                      exact ⟨_, rfl, rfl, Nat.le_refl _, hP, hbw.out.trans (hC.below (B := wr.heap.size) (fun k hk => Nat.le_of_eq hk.symm) hsw)⟩
                case rest =>
                  obtain ⟨zb, rfl, rfl, hzb, hHz, hbx⟩ := hcut
                  have hMx := g5'.out.below hbx g5'.out.lt
                  unfold rpC at hMx
                  have y0 := hHz.cell 0
                  have p0 := hMx.cell 0
                  have f0 := hMx.free 0
                  have y1 := hHz.cell 1
                  have p1 := hMx.cell 1
                  have f1 := hMx.free 1
                  have y2 := hHz.cell 2
                  have p2 := hMx.cell 2
                  have f2 := hMx.free 2
                  have y3 := hHz.cell 3
                  have p3 := hMx.cell 3
                  have f3 := hMx.free 3
                  have y4 := hHz.cell 4
                  have p4 := hMx.cell 4
                  have f4 := hMx.free 4
                  have y5 := hHz.cell 5
                  have p5 := hMx.cell 5
                  have f5 := hMx.free 5
                  have y6 := hHz.cell 6
                  have p6 := hMx.cell 6
                  have f6 := hMx.free 6
                  have y7 := hHz.cell 7
                  have p7 := hMx.cell 7
                  have f7 := hMx.free 7
                  have y8 := hHz.cell 8
                  have p8 := hMx.cell 8
                  have f8 := hMx.free 8
                  have y9 := hHz.cell 9
                  have p9 := hMx.cell 9
                  have f9 := hMx.free 9
                  have y10 := hHz.cell 10
                  have p10 := hMx.cell 10
                  have f10 := hMx.free 10
                  have kQ := has_set11 hMx (.slice none 0 0) (.int .i64 (l : Int)) (.string ⟨#[]⟩) (.bool false) (.bool false) (.int .i64 (m : Int)) (.string bi) (.string ⟨#[]⟩) (.string ⟨#[]⟩) (.bool false) (.bool false)
                  have hC8 := chg_set11 wc q (.slice none 0 0) (.int .i64 (l : Int)) (.string ⟨#[]⟩) (.bool false) (.bool false) (.int .i64 (m : Int)) (.string bi) (.string ⟨#[]⟩) (.string ⟨#[]⟩) (.bool false) (.bool false)
                  have hPx := (g1'.out.below hbx).chg hC8 (fun k hk e => hqn'.out (by rw [← show k = q from e]; exact hk))
                  have hBx : Below w.heap.size w wc := hBr'.out.trans (hbx.mono hzr)
                  have hB9 := hBx.trans (hC8.below (B := w.heap.size) (fun j (hj : j = q) => by omega) hBx.size)
                  have e4x := hlc'.out _ hB9
                  obtain ⟨w9, hw9⟩ : ∃ w9, S11 wc q (.slice none 0 0) (.int .i64 (l : Int)) (.string ⟨#[]⟩) (.bool false) (.bool false) (.int .i64 (m : Int)) (.string bi) (.string ⟨#[]⟩) (.string ⟨#[]⟩) (.bool false) (.bool false) = w9 := ⟨_, rfl⟩
                  rw [hw9] at kQ hC8 hPx hB9 e4x
                  unfold S11 at hw9
                  have hw9' := Lib.hid hw9
                  have kQ' := Lib.hid kQ
                  have hPx' := Lib.hid hPx
                  have hB9' := Lib.hid hB9
                  have hC9 := Lib.hid ((Chg.of_below (S := (· = q)) hbx).trans hC8)
                  have hT9 := hT'.out.below hB9
                  have e4y := e4x.2.2.2
                  have hpr := resetPs_yes w.heap.size p sp l m dv s id w9 hPx.pr h1 h2 (by have := hil'.out; omega) hT9.e hrt
                  rw [hbi'.out] at hpr
                  have hpr' := Lib.hid hpr
                  clear hw9 kQ hPx hB9 hC8 hBx hMx hHz hbx hT9 hpr
                  go_upto_region 15 with (fail)
                  rw [hw9'.out]
                  clear hw9' y0 p0 f0 y1 p1 f1 y2 p2 f2 y3 p3 f3 y4 p4 f4 y5 p5 f5 y6 p6 f6 y7 p7 f7 y8 p8 f8 y9 p9 f9 y10 p10 f10 e4x
                  go_wp2_with (first
                    | (go_at_call 15; (with_reducible refine Calls.mono hpr'.out ?_); rintro e w4 ⟨rfl, sp4, dp4, hsp4, hdp4, hpp4, hso4, hC4⟩; have hpp4' := Lib.hid hpp4; have hso4' := Lib.hid hso4; have hC4' := Lib.hid hC4; clear hpp4 hso4 hC4)
                    | (go_at_call 11; (with_reducible refine Calls.mono (numPs_any _ _) ?_); rintro e w5 ⟨rfl, rfl⟩))
                  go_meet
                  case rel =>
                    have hq9 := kQ'.out
                    have hpq : ¬ (q = p) := fun e => hqn'.out (.inr (.inl e))
                    have hq4 := hC4'.out.has (show ¬ (q = p) from hpq) hq9
                    have hz9 := hB9'.out.size
                    obtain ⟨hid1, hid2⟩ := right_id hrt
                    refine ⟨p, initR, rfNew id, prNew id, rfl, sp4, dp4, .slice none 0 0, none, none, 0, ⟨hpp4'.out, bs_nil _ _, by rw [absC_init]; exact hso4'.out, fun g hg => by cases hg⟩, ⟨g2.1, by omega, by omega⟩, hB9'.out.trans (hC4'.out.below (B := w.heap.size) (fun j (hj : j = p) => by have := g2.1; omega) hz9), g4q, ?_, fun h => absurd h (by simp [initR]), ⟨by simp [initR], by simp [initR]⟩, by rw [absC_init]; exact init0_ok l, relP_new id, prNew_ok hid1 hid2, by have := hil'.out; show id.length ≤ _; omega⟩
                    rw [← hbi'.out] at hq4
                    exact hq4
              · have hrt : rightE (id, [], []) = false := by simpa using hrt
                go_upto_region 13 with (fail)
                have hres := Lib.hid (fun W => refResetPs_no A1 rl c1 l m r.line id r.any r.half rf W h1 h2 h3 h4 (by have := hil'.out; omega) hrt)
                unfold rpC at hres
                rw [hbi'.out] at hres
                have hK : Hid (∀ W, Below wr.heap.size wr W → (W.cell? ⟨q, 0, none⟩ = some (.slice A1 rl c1) ∧ W.cell? ⟨q, 1, none⟩ = some (.int .i64 (l : Int)) ∧ W.cell? ⟨q, 2, none⟩ = some (.string ⟨r.line.toArray⟩) ∧ W.cell? ⟨q, 3, none⟩ = some (.bool r.any) ∧ W.cell? ⟨q, 4, none⟩ = some (.bool r.half) ∧ W.cell? ⟨q, 5, none⟩ = some (.int .i64 (m : Int)) ∧ W.cell? ⟨q, 6, none⟩ = some (.string ⟨rf.id.toArray⟩) ∧ W.cell? ⟨q, 7, none⟩ = some (.string ⟨rf.type.toArray⟩) ∧ W.cell? ⟨q, 8, none⟩ = some (.string ⟨rf.data.toArray⟩) ∧ W.cell? ⟨q, 9, none⟩ = some (.bool rf.some) ∧ W.cell? ⟨q, 10, none⟩ = some (.bool rf.long)) ∧ W.cell? ⟨b, o + k * 4 + 3, none⟩ = some (.string bi)) := Lib.hid (fun W hb => by
                  have hk := g5'.out.below hb g5'.out.lt
                  exact ⟨⟨hk.cell 0, hk.cell 1, hk.cell 2, hk.cell 3, hk.cell 4, hk.cell 5, hk.cell 6, hk.cell 7, hk.cell 8, hk.cell 9, hk.cell 10⟩, (hlc'.out W (hBr'.out.trans (hb.mono hzr))).2.2.2⟩)
                have hbd := Lib.hid ((Below.refl wr.heap.size wr).drew)
                have hbZ := Lib.hid (((Below.refl wr.heap.size wr).alloc (Nat.le_refl _) (.cells #[.slice none 0 0, .int .i64 0, .string ⟨#[]⟩, .bool false, .bool false, .int .i64 0, .string ⟨#[]⟩, .string ⟨#[]⟩, .string ⟨#[]⟩, .bool false, .bool false] 51)).drew)
                have kZ := Lib.hid ((Has.new wr 51 #[.slice none 0 0, .int .i64 0, .string ⟨#[]⟩, .bool false, .bool false, .int .i64 0, .string ⟨#[]⟩, .string ⟨#[]⟩, .string ⟨#[]⟩, .bool false, .bool false]).drew)
                go_cut [14, 15] from 51 to 164 (fun s14 s15 wx => ∃ zb : Nat, s14 = .pointer (some ⟨zb, 0, none⟩) ∧ s15 = .int .i64 2 ∧ wr.heap.size ≤ zb ∧ Has wx zb 51 #[.slice A1 rl c1, .int .i64 (l : Int), .string ⟨r.line.toArray⟩, .bool r.any, .bool r.half, .int .i64 (m : Int), .string ⟨rf.id.toArray⟩, .string ⟨rf.type.toArray⟩, .string ⟨rf.data.toArray⟩, .bool rf.some, .bool rf.long] ∧ Below wr.heap.size wr wx)
                case first =>
                  go_region_held3 (fun W => (W.cell? ⟨q, 0, none⟩ = some (.slice A1 rl c1) ∧ W.cell? ⟨q, 1, none⟩ = some (.int .i64 (l : Int)) ∧ W.cell? ⟨q, 2, none⟩ = some (.string ⟨r.line.toArray⟩) ∧ W.cell? ⟨q, 3, none⟩ = some (.bool r.any) ∧ W.cell? ⟨q, 4, none⟩ = some (.bool r.half) ∧ W.cell? ⟨q, 5, none⟩ = some (.int .i64 (m : Int)) ∧ W.cell? ⟨q, 6, none⟩ = some (.string ⟨rf.id.toArray⟩) ∧ W.cell? ⟨q, 7, none⟩ = some (.string ⟨rf.type.toArray⟩) ∧ W.cell? ⟨q, 8, none⟩ = some (.string ⟨rf.data.toArray⟩) ∧ W.cell? ⟨q, 9, none⟩ = some (.bool rf.some) ∧ W.cell? ⟨q, 10, none⟩ = some (.bool rf.long)) ∧ W.cell? ⟨b, o + k * 4 + 3, none⟩ = some (.string bi))
                    (first
                    | with_reducible exact hK.out _ hbd.out
                    | with_reducible exact hK.out _ hbZ.out
                    | with_reducible exact hK.out _ hbw.out
                    | with_reducible exact hK.out _ (hbv.out _)
                    | (refine hK.out _ ?_; repeat' (first | with_reducible exact hbw.out | with_reducible refine Below.drew ?_ | with_reducible refine Below.alloc ?_ ?_ _ | with_reducible refine Below.setCell ?_ ?_ _ | omega | (simp only [World.size_alloc, World.size_setCell, World.size_drew]; omega) | (simp; omega)))
                    | fail)
                    (first
                    | (go_at_call 14; (with_reducible refine Calls.mono (hres.out (wr.drew)) ?_); rintro e w2 ⟨rfl, hb2⟩; have hbw := Lib.hid (hbd.out.trans (hb2.mono hbd.out.size)); have hsw := hbw.out.size; have hbv := Lib.hid (fun o => hbw.out.alloc hbw.out.size o); clear hb2)
                    | (go_at_call 14; (with_reducible refine Calls.mono (hres.out ((wr.alloc (.cells #[.slice none 0 0, .int .i64 0, .string ⟨#[]⟩, .bool false, .bool false, .int .i64 0, .string ⟨#[]⟩, .string ⟨#[]⟩, .string ⟨#[]⟩, .bool false, .bool false] 51)).drew)) ?_); rintro e w2 ⟨rfl, hb2⟩; have hbw := Lib.hid (hbZ.out.trans (hb2.mono hbZ.out.size)); have hsw := hbw.out.size; have hbv := Lib.hid (fun o => hbw.out.alloc hbw.out.size o); have nP := kZ.out.below hb2 kZ.out.lt; have cP0 := nP.cell 0; have fP0 := nP.free 0; have cP1 := nP.cell 1; have fP1 := nP.free 1; have cP2 := nP.cell 2; have fP2 := nP.free 2; have cP3 := nP.cell 3; have fP3 := nP.free 3; have cP4 := nP.cell 4; have fP4 := nP.free 4; have cP5 := nP.cell 5; have fP5 := nP.free 5; have cP6 := nP.cell 6; have fP6 := nP.free 6; have cP7 := nP.cell 7; have fP7 := nP.free 7; have cP8 := nP.cell 8; have fP8 := nP.free 8; have cP9 := nP.cell 9; have fP9 := nP.free 9; have cP10 := nP.cell 10; have fP10 := nP.free 10; have nPH := Lib.hid nP; clear nP hb2)
                    | fail)
                  · go_wp2_with fail
                    go_meet
                    case rel => exact ⟨_, rfl, rfl, hsw, Has.new w2 _ _, hbv.out _⟩
                  · go_wp2_with fail
                    go_meet
                    case rel =>
                      have hP := has_set11 nPH.out (.slice A1 rl c1) (.int .i64 (l : Int)) (.string ⟨r.line.toArray⟩) (.bool r.any) (.bool r.half) (.int .i64 (m : Int)) (.string ⟨rf.id.toArray⟩) (.string ⟨rf.type.toArray⟩) (.string ⟨rf.data.toArray⟩) (.bool rf.some) (.bool rf.long)
                      have hC := chg_set11 w2 wr.heap.size (.slice A1 rl c1) (.int .i64 (l : Int)) (.string ⟨r.line.toArray⟩) (.bool r.any) (.bool r.half) (.int .i64 (m : Int)) (.string ⟨rf.id.toArray⟩) (.string ⟨rf.type.toArray⟩) (.string ⟨rf.data.toArray⟩) (.bool rf.some) (.bool rf.long)
                      exact ⟨_, rfl, rfl, Nat.le_refl _, hP, hbw.out.trans (hC.below (B := wr.heap.size) (fun k hk => Nat.le_of_eq hk.symm) hsw)⟩
                case rest =>
                  obtain ⟨zb, rfl, rfl, hzb, hHz, hbx⟩ := hcut
                  have hMx := g5'.out.below hbx g5'.out.lt
                  unfold rpC at hMx
                  have y0 := hHz.cell 0
                  have p0 := hMx.cell 0
                  have f0 := hMx.free 0
                  have y1 := hHz.cell 1
                  have p1 := hMx.cell 1
                  have f1 := hMx.free 1
                  have y2 := hHz.cell 2
                  have p2 := hMx.cell 2
                  have f2 := hMx.free 2
                  have y3 := hHz.cell 3
                  have p3 := hMx.cell 3
                  have f3 := hMx.free 3
                  have y4 := hHz.cell 4
                  have p4 := hMx.cell 4
                  have f4 := hMx.free 4
                  have y5 := hHz.cell 5
                  have p5 := hMx.cell 5
                  have f5 := hMx.free 5
                  have y6 := hHz.cell 6
                  have p6 := hMx.cell 6
                  have f6 := hMx.free 6
                  have y7 := hHz.cell 7
                  have p7 := hMx.cell 7
                  have f7 := hMx.free 7
                  have y8 := hHz.cell 8
                  have p8 := hMx.cell 8
                  have f8 := hMx.free 8
                  have y9 := hHz.cell 9
                  have p9 := hMx.cell 9
                  have f9 := hMx.free 9
                  have y10 := hHz.cell 10
                  have p10 := hMx.cell 10
                  have f10 := hMx.free 10
                  have kQ := has_set11 hMx (.slice A1 rl c1) (.int .i64 (l : Int)) (.string ⟨r.line.toArray⟩) (.bool r.any) (.bool r.half) (.int .i64 (m : Int)) (.string ⟨rf.id.toArray⟩) (.string ⟨rf.type.toArray⟩) (.string ⟨rf.data.toArray⟩) (.bool rf.some) (.bool rf.long)
                  have hC8 := chg_set11 wc q (.slice A1 rl c1) (.int .i64 (l : Int)) (.string ⟨r.line.toArray⟩) (.bool r.any) (.bool r.half) (.int .i64 (m : Int)) (.string ⟨rf.id.toArray⟩) (.string ⟨rf.type.toArray⟩) (.string ⟨rf.data.toArray⟩) (.bool rf.some) (.bool rf.long)
                  have hPx := (g1'.out.below hbx).chg hC8 (fun k hk e => hqn'.out (by rw [← show k = q from e]; exact hk))
                  have hBx : Below w.heap.size w wc := hBr'.out.trans (hbx.mono hzr)
                  have hB9 := hBx.trans (hC8.below (B := w.heap.size) (fun j (hj : j = q) => by omega) hBx.size)
                  have e4x := hlc'.out _ hB9
                  obtain ⟨w9, hw9⟩ : ∃ w9, S11 wc q (.slice A1 rl c1) (.int .i64 (l : Int)) (.string ⟨r.line.toArray⟩) (.bool r.any) (.bool r.half) (.int .i64 (m : Int)) (.string ⟨rf.id.toArray⟩) (.string ⟨rf.type.toArray⟩) (.string ⟨rf.data.toArray⟩) (.bool rf.some) (.bool rf.long) = w9 := ⟨_, rfl⟩
                  rw [hw9] at kQ hC8 hPx hB9 e4x
                  unfold S11 at hw9
                  have hw9' := Lib.hid hw9
                  have kQ' := Lib.hid kQ
                  have hPx' := Lib.hid hPx
                  have hB9' := Lib.hid hB9
                  have hC9 := Lib.hid ((Chg.of_below (S := (· = q)) hbx).trans hC8)
                  have hT9 := hT'.out.below hB9
                  have e4y := e4x.2.2.2
                  have hpr := resetPs_no p sp l m dv s id w9 hPx.pr h1 (by have := hil'.out; omega) hT9.e hrt
                  rw [hbi'.out] at hpr
                  have hpr' := Lib.hid hpr
                  clear hw9 kQ hPx hB9 hC8 hBx hMx hHz hbx hT9 hpr
                  go_upto_region 15 with (fail)
                  rw [hw9'.out]
                  clear hw9' y0 p0 f0 y1 p1 f1 y2 p2 f2 y3 p3 f3 y4 p4 f4 y5 p5 f5 y6 p6 f6 y7 p7 f7 y8 p8 f8 y9 p9 f9 y10 p10 f10 e4x
                  go_wp2_with (first
                    | (go_at_call 15; (with_reducible refine Calls.mono hpr'.out ?_); rintro e w4 ⟨rfl, hb4⟩; have hb4' := Lib.hid hb4; clear hb4)
                    | (go_at_call 11; (with_reducible refine Calls.mono (numPs_any _ _) ?_); rintro e w5 ⟨rfl, rfl⟩))
                  go_meet
                  case rel =>
                    refine ⟨p, r, rf, s, rfl, StP.below ⟨sp, dp, dv, ob, A1, c1, hPx'.out, g2, hB9'.out, g4q, ?_, ?_, g7, g8'.out, g9'.out⟩ hb4'.out⟩
                    · rw [hrl'.out]; exact kQ'.out
                    · exact (g6'.out.kept (fun j hj => hC9.out.block j hj.1 (fun e => hj.2.1 e))).mono (fun j hj => ⟨Nat.lt_of_lt_of_le hj.1 hC9.out.size, hj.2⟩)
          case rest =>
            clear hS' hBr' hTr e1 e2 e3 e4 hzr
            obtain ⟨p, r, rf, s, rfl, hS⟩ := hcut
            obtain ⟨w8, hw8⟩ : ∃ w8, w8 = wc := ⟨_, rfl⟩
            subst hw8
            obtain ⟨sp, dp, dv, ob, A1, c1, g1, g2, g3, g4q, g5, g6, g7, g8, g9⟩ := hS
            have hzr := g3.size
            have hqn := psAt_ne g1 g5
            have hCl : ∀ j, ChP sp dp p ob dv.ownBlock j → j < w8.heap.size ∧ w.heap.size ≤ j := fun j hj => ⟨ChP.lt g1 hj, ChP.low g1 g2 hj⟩
            have hgl := g5.lt
            obtain ⟨rn, hrn2⟩ : ∃ rn, stepR l r x = rn := ⟨_, rfl⟩
            obtain ⟨rl, hrl⟩ : ∃ rl, r.ws.length = rl := ⟨_, rfl⟩
            have hSC := stepR_stepC l r x
            have hRW := fun (W : World) (hb : Below w8.heap.size w8 W) => refWritePs_any A1 Ai rl c1 mx ci l m r rf s x W ((g6.kept (Kept.below hb (fun b h => h.1))).mono (fun b h => Nat.lt_of_lt_of_le h.1 hb.size)) (hli.out W (g3.trans (hb.mono hzr))) hrl.symm hm'.out.symm (by omega) (by have := hm'.out; omega) h2 h4 g7.1 g8 g9.1 g9.2.1 g9.2.2
            have hrlen : rn.2.line.length ≤ l + 4 := by rw [← hrn2]; exact stepR_len g7.1 x
            have hrws : rn.2.ws.length ≤ 3 := by rw [← hrn2]; exact run_three _
            have hrok : (absC l rn.2).ok l := by
              have := stepC_ok g8 x
              rw [hSC, hrn2] at this
              exact this
            have hrcnt : rn.1.length ≤ 6000 := by
              have h3 := stepC_count (most := l) (absC l r) x
              rw [hSC, hrn2] at h3
              have h4 : (absC l r).ws = r.ws := rfl
              rw [h4] at h3
              have := hm'.out
              simp only at h3
              omega
            have hLok : ∀ y ∈ rn.1, LineOk l y := fun y hy => by
              obtain ⟨a1, a2, a3, _⟩ := stepC_good g8 x y (by rw [hSC, hrn2]; exact hy)
              exact ⟨a1, a2, a3⟩
            have hFok : ∀ f ∈ fieldsL rn.1, FldOk l f := fun f hf => by
              obtain ⟨y, hy, hyf⟩ := List.mem_filterMap.1 hf
              exact said_ok (hLok y hy) hyf
            obtain ⟨hrel1, hrel2⟩ := rel_lines (line := l) rn.1 s rf g9.1 g9.2.1 hLok
            have hsnok := stepsP_ok _ s g9.2.1 hFok
            have hsnl := stepsP_last (most := m) h2 _ s g9.2.2 hFok
            have hsnsd := stepsP_sd h4 h2 _ s g9.2.1 g9.2.2 hFok
            have hcnt2 := rfLines_count m rn.1 rf
            unfold RefWP at hRW
            rw [hrn2] at hRW hSC
            obtain ⟨⟨rg, so⟩, hrg⟩ : ∃ y, rfLines m rf rn.1 = y := ⟨_, rfl⟩
            obtain ⟨⟨sn, so2⟩, hsn⟩ : ∃ y, stepsP m s (fieldsL rn.1) = y := ⟨_, rfl⟩
            rw [hrg] at hRW hrel1 hrel2 hcnt2
            rw [hsn] at hrel1 hrel2 hsnok hsnl hsnsd
            simp only at hRW hrel1 hrel2 hcnt2 hsnok hsnl hsnsd
            subst hrel2
            have hwp : ∀ W, PsAt W w.heap.size p sp dp l m dv ob (absC l r) s → Rd W (fun k => k < W.heap.size ∧ ¬ ChL sp dp ob k) Ai x → FTabs W → w.heap.size ≤ W.heap.size → Calls Tryz.prog 17 #[.pointer (some ⟨p, 0, none⟩), .slice Ai mx ci] W fun e w' => ∃ v dv' ob', e = .returned (.tuple #[v, .int .i64 0]) ∧ Sds w' W.heap.size v so ∧ PsAt w' w.heap.size p sp dp l m dv' ob' (absC l rn.2) sn ∧ (∀ g, dv'.ownBlock = some g → dv.ownBlock = some g ∨ W.heap.size ≤ g) ∧ (∀ g, ob' = some g → ob = some g ∨ W.heap.size ≤ g) ∧ Chg (ChP sp dp p ob dv.ownBlock) W w' := fun W a1 a2 a3 a4 => by
              have h := writePs_any p sp dp l m w.heap.size mx ci Ai dv ob (absC l r) s x W a1 g8 g9.2.1 g9.2.2 h1 h2 h4 hm'.out.symm (by omega) hxc1 hxc2 a2 a3 hlow.out a4 g2
              unfold WroteP at h
              rw [hSC] at h
              simp only at h
              rw [hsn] at h
              exact h
            obtain ⟨ql, hql⟩ : ∃ ql, rn.2.ws.length = ql := ⟨_, rfl⟩
            obtain ⟨kl, hkl⟩ : ∃ kl, so.length = kl := ⟨_, rfl⟩
            rw [hkl] at hcnt2
            rw [hql] at hRW hrws
            rw [hrl] at g5
            unfold rpC at hRW
            have g5c : Has w8 q 51 #[.slice A1 rl c1, .int .i64 (l : Int), .string ⟨r.line.toArray⟩, .bool r.any, .bool r.half, .int .i64 (m : Int), .string ⟨rf.id.toArray⟩, .string ⟨rf.type.toArray⟩, .string ⟨rf.data.toArray⟩, .bool rf.some, .bool rf.long] := g5
            have hK : Hid (∀ W, Below w8.heap.size w8 W → (W.cell? ⟨q, 0, none⟩ = some (.slice A1 rl c1) ∧ W.cell? ⟨q, 1, none⟩ = some (.int .i64 (l : Int)) ∧ W.cell? ⟨q, 2, none⟩ = some (.string ⟨r.line.toArray⟩) ∧ W.cell? ⟨q, 3, none⟩ = some (.bool r.any) ∧ W.cell? ⟨q, 4, none⟩ = some (.bool r.half) ∧ W.cell? ⟨q, 5, none⟩ = some (.int .i64 (m : Int)) ∧ W.cell? ⟨q, 6, none⟩ = some (.string ⟨rf.id.toArray⟩) ∧ W.cell? ⟨q, 7, none⟩ = some (.string ⟨rf.type.toArray⟩) ∧ W.cell? ⟨q, 8, none⟩ = some (.string ⟨rf.data.toArray⟩) ∧ W.cell? ⟨q, 9, none⟩ = some (.bool rf.some) ∧ W.cell? ⟨q, 10, none⟩ = some (.bool rf.long)) ∧ W.cell? ⟨b, o + k * 4, none⟩ = some (.slice Ai mx ci)) := Lib.hid (fun W hb => by
              have hk := g5c.below hb g5c.lt
              exact ⟨⟨hk.cell 0, hk.cell 1, hk.cell 2, hk.cell 3, hk.cell 4, hk.cell 5, hk.cell 6, hk.cell 7, hk.cell 8, hk.cell 9, hk.cell 10⟩, (hlc'.out W (g3.trans (hb.mono hzr))).1⟩)
            have hRW' := Lib.hid hRW
            have hwp' := Lib.hid hwp
            have hql' := Lib.hid hql
            have hkl' := Lib.hid hkl
            have g1' := Lib.hid g1
            have g5' := Lib.hid g5c
            have g3' := Lib.hid g3
            have hqn' := Lib.hid hqn
            have hCl' := Lib.hid hCl
            have hrok' := Lib.hid hrok
            have hrel' := Lib.hid hrel1
            have hsnok' := Lib.hid hsnok
            have hsnsd' := Lib.hid hsnsd
            have hrlws := Lib.hid (show rn.2.line.length ≤ l + 4 ∧ rn.2.ws.length ≤ 3 from ⟨hrlen, by omega⟩)
            have hbd := Lib.hid ((Below.refl w8.heap.size w8).drew)
            have hbZ := Lib.hid (((Below.refl w8.heap.size w8).alloc (Nat.le_refl _) (.cells #[.slice none 0 0, .int .i64 0, .string ⟨#[]⟩, .bool false, .bool false, .int .i64 0, .string ⟨#[]⟩, .string ⟨#[]⟩, .string ⟨#[]⟩, .bool false, .bool false] 51)).drew)
            have kZ := Lib.hid ((Has.new w8 51 #[.slice none 0 0, .int .i64 0, .string ⟨#[]⟩, .bool false, .bool false, .int .i64 0, .string ⟨#[]⟩, .string ⟨#[]⟩, .string ⟨#[]⟩, .bool false, .bool false]).drew)
            clear g1 g3 g5 g5c g6 g7 g8 g9 hqn hCl hRW hwp hSC hrn2 hrl hql hkl hrok hLok hFok hsnok hsnsd hrel1 hrg hsn hrlen
            go_upto_region 17 with (fail)
            go_cut [16, 17] from 51 to 164 (fun s16 s17 wx => ∃ (zb : Nat) (A2 : Option Addr) (c2 : Nat) (A3 : Option Addr) (c3 : Nat), s16 = .pointer (some ⟨zb, 0, none⟩) ∧ s17 = .slice A3 kl c3 ∧ w8.heap.size ≤ zb ∧ Has wx zb 51 #[.slice A2 ql c2, .int .i64 (l : Int), .string ⟨rn.2.line.toArray⟩, .bool rn.2.any, .bool rn.2.half, .int .i64 (m : Int), .string ⟨rg.id.toArray⟩, .string ⟨rg.type.toArray⟩, .string ⟨rg.data.toArray⟩, .bool rg.some, .bool rg.long] ∧ Rd wx (fun b => w8.heap.size ≤ b ∧ b < wx.heap.size) A2 rn.2.ws ∧ Sds wx w8.heap.size (.slice A3 kl c3) so ∧ Below w8.heap.size w8 wx)
            case first =>
              go_region_held3 (fun W => (W.cell? ⟨q, 0, none⟩ = some (.slice A1 rl c1) ∧ W.cell? ⟨q, 1, none⟩ = some (.int .i64 (l : Int)) ∧ W.cell? ⟨q, 2, none⟩ = some (.string ⟨r.line.toArray⟩) ∧ W.cell? ⟨q, 3, none⟩ = some (.bool r.any) ∧ W.cell? ⟨q, 4, none⟩ = some (.bool r.half) ∧ W.cell? ⟨q, 5, none⟩ = some (.int .i64 (m : Int)) ∧ W.cell? ⟨q, 6, none⟩ = some (.string ⟨rf.id.toArray⟩) ∧ W.cell? ⟨q, 7, none⟩ = some (.string ⟨rf.type.toArray⟩) ∧ W.cell? ⟨q, 8, none⟩ = some (.string ⟨rf.data.toArray⟩) ∧ W.cell? ⟨q, 9, none⟩ = some (.bool rf.some) ∧ W.cell? ⟨q, 10, none⟩ = some (.bool rf.long)) ∧ W.cell? ⟨b, o + k * 4, none⟩ = some (.slice Ai mx ci))
                (first
                | with_reducible exact hK.out _ hbd.out
                | with_reducible exact hK.out _ hbZ.out
                | with_reducible exact hK.out _ hbw.out
                | with_reducible exact hK.out _ (hbv.out _)
                | (refine hK.out _ ?_; repeat' (first | with_reducible exact hbw.out | with_reducible refine Below.drew ?_ | with_reducible refine Below.alloc ?_ ?_ _ | with_reducible refine Below.setCell ?_ ?_ _ | omega | (simp only [World.size_alloc, World.size_setCell, World.size_drew]; omega) | (simp; omega)))
                | fail)
                (first
                | (go_at_call 16; (with_reducible refine Calls.mono (hRW'.out (w8.drew) hbd.out) ?_); rintro e w2 ⟨A2, c2, v2, rfl, hr2, hL2, hb2⟩; obtain ⟨A3, c3, rfl, _⟩ := hL2.shape; rw [hkl'.out] at hL2 ⊢; have hbw := Lib.hid (hbd.out.trans (hb2.mono hbd.out.size)); have hsw := hbw.out.size; have hbv := Lib.hid (fun o => hbw.out.alloc hbw.out.size o); have hr2' := Lib.hid hr2; have hL2' := Lib.hid hL2; clear hb2 hr2 hL2)
                | (go_at_call 16; (with_reducible refine Calls.mono (hRW'.out ((w8.alloc (.cells #[.slice none 0 0, .int .i64 0, .string ⟨#[]⟩, .bool false, .bool false, .int .i64 0, .string ⟨#[]⟩, .string ⟨#[]⟩, .string ⟨#[]⟩, .bool false, .bool false] 51)).drew) hbZ.out) ?_); rintro e w2 ⟨A2, c2, v2, rfl, hr2, hL2, hb2⟩; obtain ⟨A3, c3, rfl, _⟩ := hL2.shape; rw [hkl'.out] at hL2 ⊢; have hbw := Lib.hid (hbZ.out.trans (hb2.mono hbZ.out.size)); have hsw := hbw.out.size; have hbv := Lib.hid (fun o => hbw.out.alloc hbw.out.size o); have nP := kZ.out.below hb2 kZ.out.lt; have cP0 := nP.cell 0; have fP0 := nP.free 0; have cP1 := nP.cell 1; have fP1 := nP.free 1; have cP2 := nP.cell 2; have fP2 := nP.free 2; have cP3 := nP.cell 3; have fP3 := nP.free 3; have cP4 := nP.cell 4; have fP4 := nP.free 4; have cP5 := nP.cell 5; have fP5 := nP.free 5; have cP6 := nP.cell 6; have fP6 := nP.free 6; have cP7 := nP.cell 7; have fP7 := nP.free 7; have cP8 := nP.cell 8; have fP8 := nP.free 8; have cP9 := nP.cell 9; have fP9 := nP.free 9; have cP10 := nP.cell 10; have fP10 := nP.free 10; have nPH := Lib.hid nP; have hr2' := Lib.hid hr2; have hL2' := Lib.hid hL2; clear nP hb2 hr2 hL2)
                | fail)
              · go_wp2_with fail
                go_meet
                case rel =>
                  have hal : Below w2.heap.size w2 (w2.alloc (.cells #[.slice A2 ql c2, .int .i64 (l : Int), .string ⟨rn.2.line.toArray⟩, .bool rn.2.any, .bool rn.2.half, .int .i64 (m : Int), .string ⟨rg.id.toArray⟩, .string ⟨rg.type.toArray⟩, .string ⟨rg.data.toArray⟩, .bool rg.some, .bool rg.long] 51)) := (Below.refl _ _).alloc (Nat.le_refl _) _
                  refine ⟨_, A2, c2, A3, c3, rfl, rfl, hsw, Has.new w2 _ _, (hr2'.out.kept (Kept.below hal (fun j hj => hj.2))).mono (fun j hj => ⟨?_, ?_⟩), (hL2'.out.below hal).mono (Nat.le_refl _), hbv.out _⟩
                  · have h : w8.heap.size ≤ j := hj.1
                    exact h
                  · have h := hj.2
                    rw [World.size_alloc]; omega
              · go_wp2_with fail
                go_meet
                case rel =>
                  have hP := has_set11 nPH.out (.slice A2 ql c2) (.int .i64 (l : Int)) (.string ⟨rn.2.line.toArray⟩) (.bool rn.2.any) (.bool rn.2.half) (.int .i64 (m : Int)) (.string ⟨rg.id.toArray⟩) (.string ⟨rg.type.toArray⟩) (.string ⟨rg.data.toArray⟩) (.bool rg.some) (.bool rg.long)
                  have hC := chg_set11 w2 w8.heap.size (.slice A2 ql c2) (.int .i64 (l : Int)) (.string ⟨rn.2.line.toArray⟩) (.bool rn.2.any) (.bool rn.2.half) (.int .i64 (m : Int)) (.string ⟨rg.id.toArray⟩) (.string ⟨rg.type.toArray⟩) (.string ⟨rg.data.toArray⟩) (.bool rg.some) (.bool rg.long)
                  have hzA : ((w8.alloc (.cells #[.slice none 0 0, .int .i64 0, .string ⟨#[]⟩, .bool false, .bool false, .int .i64 0, .string ⟨#[]⟩, .string ⟨#[]⟩, .string ⟨#[]⟩, .bool false, .bool false] 51)).drew).heap.size = w8.heap.size + 1 := by show (w8.alloc (.cells #[.slice none 0 0, .int .i64 0, .string ⟨#[]⟩, .bool false, .bool false, .int .i64 0, .string ⟨#[]⟩, .string ⟨#[]⟩, .string ⟨#[]⟩, .bool false, .bool false] 51)).heap.size = _; simp
                  refine ⟨_, A2, c2, A3, c3, rfl, rfl, Nat.le_refl _, hP, (hr2'.out.kept (fun j hj => hC.block j hj.2 (fun e => ?_))).mono (fun j hj => ⟨?_, ?_⟩), (hL2'.out.kept (fun g hg => hC.block g (hL2'.out.own g hg).2.choose_spec.lt (fun e => ?_))).mono (by omega), hbw.out.trans (hC.below (B := w8.heap.size) (fun k hk => Nat.le_of_eq hk.symm) hsw)⟩
                  · have h1 := hj.1
                    have e : j = w8.heap.size := e
                    rw [hzA] at h1
                    omega
                  · have h1 := hj.1
                    rw [hzA] at h1
                    omega
                  · exact Nat.lt_of_lt_of_le hj.2 hC.size
                  · have h1 := (hL2'.out.own g hg).1
                    have e : g = w8.heap.size := e
                    rw [hzA] at h1
                    omega
            case rest =>
              obtain ⟨zb, A2, c2, A3, c3, rfl, rfl, hzb, hHz, hr2, hL2, hbx⟩ := hcut
              have hB9 := g3'.out.trans (hbx.mono hzr)
              have hbxs := hbx.size
              have hzl := hHz.lt
              have hwd := hwp'.out wc (g1'.out.below hbx) ((hri'.out.kept (Kept.below hB9 (fun _ h => h))).mono (fun j hj => ⟨by have hj : j < w.heap.size := hj; omega, fun h => by have hj : j < w.heap.size := hj; have := (hCl'.out _ (.inl h)).2; omega⟩)) (hT'.out.below hB9).f (by omega)
              have hCz : ¬ ChP sp dp p ob dv.ownBlock zb := fun h => by have := (hCl'.out _ h).1; omega
              obtain ⟨e1, e2, e3, e4⟩ := hlc'.out wc hB9
              have hwd' := Lib.hid hwd
              have hz2' := Lib.hid hHz
              have hr2' := Lib.hid hr2
              have hL2' := Lib.hid hL2
              have hbx' := Lib.hid hbx
              have hB9' := Lib.hid hB9
              have hCz' := Lib.hid hCz
              have hg1c := Lib.hid (g1'.out.below hbx)
              have hq9 := Lib.hid (g5'.out.below hbx g5'.out.lt)
              clear hwd hHz hr2 hL2 hbx hB9 hCz e2 e3 e4
              go_upto_region 19 with (first
                | (go_at_call 17; (with_reducible refine Calls.mono hwd'.out ?_); rintro e w4 ⟨v4, dv4, ob4, rfl, hL4, hs4, hd4, ho4, hC4⟩; obtain ⟨A5, c5, rfl, _⟩ := hL4.shape; rw [hkl'.out] at hL4 ⊢; have hL4' := Lib.hid hL4; have hs4' := Lib.hid hs4; have hd4' := Lib.hid hd4; have ho4' := Lib.hid ho4; have hC4' := Lib.hid hC4; clear hL4 hs4 hd4 ho4 hC4)
                | fail)
              clear e1
              have hz4 := hC4'.out.size
              have kz4 := hC4'.out.has hCz'.out hz2'.out
              have kq4 := hC4'.out.has hqn'.out hq9.out
              have x0 := kz4.cell 0
              have p0 := kq4.cell 0
              have q0 := kq4.free 0
              have x1 := kz4.cell 1
              have p1 := kq4.cell 1
              have q1 := kq4.free 1
              have x2 := kz4.cell 2
              have p2 := kq4.cell 2
              have q2 := kq4.free 2
              have x3 := kz4.cell 3
              have p3 := kq4.cell 3
              have q3 := kq4.free 3
              have x4 := kz4.cell 4
              have p4 := kq4.cell 4
              have q4 := kq4.free 4
              have x5 := kz4.cell 5
              have p5 := kq4.cell 5
              have q5 := kq4.free 5
              have x6 := kz4.cell 6
              have p6 := kq4.cell 6
              have q6 := kq4.free 6
              have x7 := kz4.cell 7
              have p7 := kq4.cell 7
              have q7 := kq4.free 7
              have x8 := kz4.cell 8
              have p8 := kq4.cell 8
              have q8 := kq4.free 8
              have x9 := kz4.cell 9
              have p9 := kq4.cell 9
              have q9 := kq4.free 9
              have x10 := kz4.cell 10
              have p10 := kq4.cell 10
              have q10 := kq4.free 10
              have hcs := chg_set11 w4 q (.slice A2 ql c2) (.int .i64 (l : Int)) (.string ⟨rn.2.line.toArray⟩) (.bool rn.2.any) (.bool rn.2.half) (.int .i64 (m : Int)) (.string ⟨rg.id.toArray⟩) (.string ⟨rg.type.toArray⟩) (.string ⟨rg.data.toArray⟩) (.bool rg.some) (.bool rg.long)
              have hqn4 := psAt_ne hs4'.out kq4
              have hkq := has_set11 kq4 (.slice A2 ql c2) (.int .i64 (l : Int)) (.string ⟨rn.2.line.toArray⟩) (.bool rn.2.any) (.bool rn.2.half) (.int .i64 (m : Int)) (.string ⟨rg.id.toArray⟩) (.string ⟨rg.type.toArray⟩) (.string ⟨rg.data.toArray⟩) (.bool rg.some) (.bool rg.long)
              have hB4 : Below w.heap.size w w4 := hB9'.out.trans (hC4'.out.below (fun j hj => (hCl'.out j hj).2) (by omega))
              have hSt : StP w q l m p rn.2 rg sn (S11 w4 q (.slice A2 ql c2) (.int .i64 (l : Int)) (.string ⟨rn.2.line.toArray⟩) (.bool rn.2.any) (.bool rn.2.half) (.int .i64 (m : Int)) (.string ⟨rg.id.toArray⟩) (.string ⟨rg.type.toArray⟩) (.string ⟨rg.data.toArray⟩) (.bool rg.some) (.bool rg.long)) := by
                refine ⟨sp, dp, dv4, ob4, A2, c2, hs4'.out.chg hcs (fun j hj e => hqn4 (by rw [← show j = q from e]; exact hj)), g2, hB4.trans (hcs.below (fun j (hj : j = q) => by omega) (by omega)), g4q, ?_, ?_, hrlws.out, hrok'.out, hrel'.out, hsnok'.out, hsnl⟩
                · rw [hql'.out]; exact hkq
                · refine ((hr2'.out.kept (fun j hj => hC4'.out.block j hj.2 (fun h => by have := (hCl'.out _ h).1; have := hj.1; omega))).kept (fun j hj => hcs.block j (by have := hj.2; omega) (fun e => by have e : j = q := e; have := hj.1; omega))).mono (fun j hj => ?_)
                  have hj1 := hj.1
                  have hj2 := hj.2
                  refine ⟨Nat.lt_of_lt_of_le (show j < w4.heap.size by omega) hcs.size, by omega, ?_⟩
                  rintro ((h | h | h) | h | h)
                  · have := (hCl'.out j (.inl (.inl h))).1; omega
                  · have := (hCl'.out j (.inl (.inr (.inl h)))).1; omega
                  · rcases ho4'.out j h with h | h
                    · have := (hCl'.out j (.inl (.inr (.inr h)))).1; omega
                    · omega
                  · have := (hCl'.out j (.inr (.inl h))).1; omega
                  · rcases hd4'.out j h with h | h
                    · have := (hCl'.out j (.inr (.inr h))).1; omega
                    · omega
              have hnq : ∀ {g : Nat} {cs : Array Value}, Has w4 g 40 cs → ¬ (g = q) := fun hh => hh.apart kq4 (by decide)
              have hla0 : Sds w4 w8.heap.size (.slice A3 kl c3) so := hL2'.out.chg hg1c.out hC4'.out
              have hla : Sds (S11 w4 q (.slice A2 ql c2) (.int .i64 (l : Int)) (.string ⟨rn.2.line.toArray⟩) (.bool rn.2.any) (.bool rn.2.half) (.int .i64 (m : Int)) (.string ⟨rg.id.toArray⟩) (.string ⟨rg.type.toArray⟩) (.string ⟨rg.data.toArray⟩) (.bool rg.some) (.bool rg.long)) w8.heap.size (.slice A3 kl c3) so := hla0.kept (fun g hg => hcs.block g (hla0.own g hg).2.choose_spec.lt (hnq (hla0.own g hg).2.choose_spec))
              have hlb := hL4'.out.kept (fun g hg => hcs.block g (hL4'.out.own g hg).2.choose_spec.lt (hnq (hL4'.out.own g hg).2.choose_spec))
              obtain ⟨w6, hw6⟩ : ∃ w6, S11 w4 q (.slice A2 ql c2) (.int .i64 (l : Int)) (.string ⟨rn.2.line.toArray⟩) (.bool rn.2.any) (.bool rn.2.half) (.int .i64 (m : Int)) (.string ⟨rg.id.toArray⟩) (.string ⟨rg.type.toArray⟩) (.string ⟨rg.data.toArray⟩) (.bool rg.some) (.bool rg.long) = w6 := ⟨_, rfl⟩
              rw [hw6] at hSt hla hlb
              unfold S11 at hw6
              have hw6' := Lib.hid hw6
              have hSt' := Lib.hid hSt
              have hla' := Lib.hid hla
              have hlb' := Lib.hid hlb
              clear kz4 kq4 hcs hkq hB4 hnq hla0 hla hlb hw6 hqn4 hSt
              go_upto_region 20 with (fail)
              rw [hw6'.out]
              clear hw6' x0 p0 q0 x1 p1 q1 x2 p2 q2 x3 p3 q3 x4 p4 q4 x5 p5 q5 x6 p6 q6 x7 p7 q7 x8 p8 q8 x9 p9 q9 x10 p10 q10
              obtain ⟨dpq, s1⟩ : ∃ dpq : Unit, StP w q l m p rn.2 rg sn w6 := ⟨(), hSt'.out⟩
              obtain ⟨spq, dq, dvq, oq, Aq, cq, s1, s2, s3, s4, s5, s6, s7, s8, s9, s10, s11⟩ := s1
              have hsm := Lib.hid (sameSd_yes A3 A5 so kl c3 c5 w6.drew hkl'.out.symm ((SdK.at ⟨_, hla'.out⟩ : SdAt w6 A3 so).below (Below.refl _ _).drew) ((SdK.at ⟨_, hlb'.out⟩ : SdAt w6 A5 so).below (Below.refl _ _).drew) hsnsd'.out (by omega))
              obtain ⟨tl, htl⟩ : ∃ tl, rg.type.length = tl := ⟨_, rfl⟩
              obtain ⟨dl, hdl⟩ : ∃ dl, rg.data.length = dl := ⟨_, rfl⟩
              have hk3 := s10.k3
              have hd2 := s10.d2
              have hkd := rel_waits s9
              have htl2 : tl ≤ 65536 := by rw [← htl, s9.type]; omega
              have hdl2 : dl ≤ 200000 := by rw [← hdl, s9.data]; omega
              obtain ⟨b1, hb1⟩ : ∃ b1 : ByteArray, (⟨rg.id.toArray⟩ : ByteArray) = b1 := ⟨_, rfl⟩
              obtain ⟨b2, hb2⟩ : ∃ b2 : ByteArray, (⟨rg.type.toArray⟩ : ByteArray) = b2 := ⟨_, rfl⟩
              obtain ⟨b3, hb3⟩ : ∃ b3 : ByteArray, (⟨rg.data.toArray⟩ : ByteArray) = b3 := ⟨_, rfl⟩
              have hz2b : b2.size = tl := by rw [← hb2, size_mk, htl]
              have hz3b : b3.size = dl := by rw [← hb3, size_mk, hdl]
              have hSQ : Hid (∀ W, Below w6.heap.size w6 W → W.cell? ⟨q, 6, none⟩ = some (.string b1) ∧ W.cell? ⟨q, 7, none⟩ = some (.string b2) ∧ W.cell? ⟨q, 8, none⟩ = some (.string b3)) := Lib.hid (fun W hb => by
                have hk := s5.below hb s5.lt
                rw [← hb1, ← hb2, ← hb3]
                exact ⟨hk.cell 6, hk.cell 7, hk.cell 8⟩)
              have hla9 : Hid (∀ W, Below w6.heap.size w6 W → Calls Tryz.prog 18 #[.pointer (some ⟨p, 0, none⟩)] W fun e w' => e = .returned (.string b1) ∧ W = w') := Lib.hid (fun W hb => by
                have h := lastId_any p spq l m dvq sn W (s1.pr.below hb s1.pr.lt) h1
                rw [← s9.id, hb1] at h
                exact h)
              have hwt9 : Hid (∀ W, Below w6.heap.size w6 W → Calls Tryz.prog 19 #[.pointer (some ⟨p, 0, none⟩)] W fun e w' => e = .returned (.int .i64 ((tl : Int) + (dl : Int))) ∧ Below W.heap.size W w') := Lib.hid (fun W hb => by
                have h := waitsPs_any w.heap.size p spq l m dvq sn W (s1.pr.below hb s1.pr.lt) (s1.data.below hb) h1 (by omega) (by omega)
                have he : (((sn.kind.length + sn.data.length : Nat) : Int)) = (tl : Int) + (dl : Int) := by rw [← hkd, ← htl, ← hdl]; push_cast; rfl
                rw [he] at h
                exact h)
              have hbd6 := Lib.hid ((Below.refl w6.heap.size w6).drew)
              have hwrp : IntKind.i64.wrap ((tl : Int) + (dl : Int)) = (tl : Int) + (dl : Int) := wraps_i64 _ (by omega) (by omega)
              clear dpq s1 s2 s3 s4 s5 s6 s7 s8 s9 s10 s11 htl hdl hb1 hb2 hb3 hk3 hd2 hkd
              go_region_held3 (fun W => W.cell? ⟨q, 6, none⟩ = some (.string b1) ∧ W.cell? ⟨q, 7, none⟩ = some (.string b2) ∧ W.cell? ⟨q, 8, none⟩ = some (.string b3))
                (first
                | with_reducible exact hSQ.out _ hbd6.out
                | with_reducible exact hSQ.out _ hbA.out
                | with_reducible exact hSQ.out _ hbB.out
                | fail)
                (first
                | (go_at_call 10; (with_reducible refine Calls.mono hsm.out ?_); rintro e wA ⟨rfl, hbAd⟩; have hbA := Lib.hid (hbd6.out.trans hbAd); clear hbAd)
                | (go_at_call 11; (with_reducible refine Calls.mono (numPs_any _ _) ?_); rintro e w' ⟨rfl, rfl⟩)
                | (go_at_call 18; (with_reducible refine Calls.mono (hla9.out _ hbA.out) ?_); rintro e w' ⟨rfl, rfl⟩)
                | (go_at_call 19; (with_reducible refine Calls.mono (hwt9.out _ hbA.out) ?_); rintro e wB ⟨rfl, hbBd⟩; have hbB := Lib.hid (hbA.out.trans (hbBd.mono hbA.out.size)); clear hbBd)
                | fail)
              have hStB := hSt'.out.below hbB.out
              have hBB : Below w.heap.size w wB := by obtain ⟨_, _, _, _, _, _, _, _, h, _⟩ := hStB; exact h
              obtain ⟨e1, e2, e3, e4⟩ := hlc'.out wB hBB
              have hStB' := Lib.hid hStB
              have hBB' := Lib.hid hBB
              clear e1 e2 e4 hStB hBB
              cases cp with
              | false =>
                go_wp2
                exact ⟨⟨k + 1, p, rn.2, rg, sn, rfl, by go_num, by omega, hStB'.out⟩, by simp [intOf]; omega⟩
              | true =>
                obtain ⟨sp0, dp0, dv0, ob0, A0, c0, g1, g2, g3, g4r, g5, g6, g7, g8, g9⟩ := hStB'.out
                have hqn0 := psAt_ne g1 g5
                have hCl0 : ∀ j, ChP sp0 dp0 p ob0 dv0.ownBlock j → j < wB.heap.size ∧ w.heap.size ≤ j := fun j hj => ⟨ChP.lt g1 hj, ChP.low g1 g2 hj⟩
                have hzB := g3.size
                have hcc := fun (w : World) (C : Array Value) (n c : Nat) => Lib.run_convert_bytes_const (P := Tryz.prog) w 22 5 C n c Tryz.underlying22 Tryz.underlying5
                have hcp := Lib.hid (copyPs_any w.heap.size p sp0 dp0 l m ob0 dv0 sn (absC l rn.2) wB g1.pr g1.data g1.spl h1 h2 g8 hzB (by have := g9.2.1.d2; omega))
                have hwr := Lib.hid (fun (w2 : World) (hb2 : Below wB.heap.size wB w2) (fr : Nat × Nat) => writePs_any p sp0 dp0 l m w.heap.size 17 17 (some ⟨w2.heap.size, 0, none⟩) dv0 ob0 (absC l rn.2) sn [105, 100, 58, 32, 122, 10, 100, 97, 116, 97, 58, 32, 122, 10, 10, 100, 97] (w2.alloc (.cells #[.int .u8 105, .int .u8 100, .int .u8 58, .int .u8 32, .int .u8 122, .int .u8 10, .int .u8 100, .int .u8 97, .int .u8 116, .int .u8 97, .int .u8 58, .int .u8 32, .int .u8 122, .int .u8 10, .int .u8 10, .int .u8 100, .int .u8 97] 5 fr)) ((g1.below hb2).below ((Below.refl _ _).alloc (Nat.le_refl _) _)) g8 g9.2.1 g9.2.2 h1 h2 h4 rfl (by decide) (by decide) (by decide) ((litP_fr w2 [105, 100, 58, 32, 122, 10, 100, 97, 116, 97, 58, 32, 122, 10, 10, 100, 97] _ fr rfl).mono (fun j hj => ⟨hj.1, fun h => by have := (hCl0 j (.inl h)).1; have := hb2.size; have := hj.2; omega⟩)) ((hT'.out.below (g3.trans (hb2.mono hzB))).below ((Below.refl _ _).alloc (Nat.le_refl _) _)).f hlow.out (by have := hb2.size; simp; omega) g2)
                have g1' := Lib.hid g1
                have g5' := Lib.hid g5
                have g6' := Lib.hid g6
                have g3' := Lib.hid g3
                have hqn0' := Lib.hid hqn0
                have hCl0' := Lib.hid hCl0
                have g8' := Lib.hid g8
                have g9' := Lib.hid g9
                clear g1 g3 g5 g6 hqn0 hCl0 g8 g9
                go_wp2_with (first
                  | (go_at_call 20; (with_reducible refine Calls.mono hcp.out ?_); rintro e w2 ⟨q2, sq2, dq2, oq2, dv2, rfl, hq2, hsq2, hdq2, ho2, hd2, hp2, hB2, hS2, hb2⟩; have ho2' := Lib.hid ho2; have hd2' := Lib.hid hd2; have hp2' := Lib.hid hp2; have hB2' := Lib.hid hB2; have hS2' := Lib.hid hS2; have hb2' := Lib.hid hb2; have hwx := Lib.hid (fun fr => hwr.out w2 hb2 fr); clear ho2 hd2 hp2 hB2 hS2 hb2)
                  | (go_at_call 17; (with_reducible refine Calls.mono (hwx.out _) ?_); rintro e w4 ⟨v4, dv4, ob4, rfl, _, _, _, _, hC4⟩; have hC4' := Lib.hid hC4; clear hC4))
                refine ⟨⟨k + 1, q2, rn.2, rg, sn, rfl, by go_num, by omega, ?_⟩, by simp [intOf]; omega⟩
                have hz2 := hb2'.out.size
                have hbl : ∀ fr : Nat × Nat, Below w2.heap.size w2 (w2.alloc (.cells #[.int .u8 105, .int .u8 100, .int .u8 58, .int .u8 32, .int .u8 122, .int .u8 10, .int .u8 100, .int .u8 97, .int .u8 116, .int .u8 97, .int .u8 58, .int .u8 32, .int .u8 122, .int .u8 10, .int .u8 10, .int .u8 100, .int .u8 97] 5 fr)) := fun fr => (Below.refl _ _).alloc (Nat.le_refl _) _
                have hC4 : Chg (ChP sp0 dp0 p ob0 dv0.ownBlock) w2 w4 := (Chg.of_below (hbl _)).trans hC4'.out
                have hCc : Chg (ChP sp0 dp0 p ob0 dv0.ownBlock) wB w4 := (Chg.of_below hb2'.out).trans hC4
                have hz4 := hC4.size
                have hPn : PsAt w2 w.heap.size q2 sq2 dq2 l m dv2 oq2 (absC l rn.2) sn := ⟨hp2'.out, hB2'.out, hS2'.out, fun g hg => (hd2'.out g hg).2⟩
                have hlo : ∀ j, ChP sq2 dq2 q2 oq2 dv2.ownBlock j → wB.heap.size ≤ j := fun j hj => by
                  rcases hj with (h | h | h) | h | h
                  · omega
                  · omega
                  · exact ho2'.out j h
                  · omega
                  · exact (hd2'.out j h).1
                refine ⟨sq2, dq2, dv2, oq2, A0, c0, hPn.chg hC4 (fun j hj h => by have := hlo j hj; have := (hCl0'.out j h).1; omega), ⟨by omega, by omega, by omega⟩, g3'.out.trans (hCc.below (fun j hj => (hCl0'.out j hj).2) hzB), g4r, hCc.has hqn0'.out g5'.out, ?_, g7, g8'.out, g9'.out⟩
                exact (g6'.out.kept (fun j hj => hCc.block j hj.1 hj.2.2)).mono (fun j hj => ⟨by have := hj.1; have := hCc.size; omega, hj.2.1, fun h => by have := hlo j h; have := hj.1; omega⟩)
    · obtain rfl : k = n := by omega
      clear hS hS'
      have hB0 := Lib.hid hBr
      have hwk := Lib.hid (fun (W : World) (hb : Below wr.heap.size wr W) => worksPs_any W (hT'.out.below (hB0.out.trans (hb.mono hzr))))
      cases z with
      | false =>
        have hwn := Lib.hid (writePs_none none none 0 0 wr (.inl rfl))
        have hen := Lib.hid (fun (W : World) => resetPs_none none ⟨#[]⟩ W (.inl rfl))
        have hla := Lib.hid (fun (W : World) => lastId_none none W (.inl rfl))
        have hwa := Lib.hid (fun (W : World) => waitsPs_none none W (.inl rfl))
        have hco := Lib.hid (fun (W : World) => copyPs_none none W (.inl rfl))
        go_wp2_with (first
          | (go_at_call 17; (with_reducible refine Calls.mono hwn.out ?_); rintro e w2 ⟨rfl, hb2⟩; have hb2' := Lib.hid hb2; clear hb2)
          | (go_at_call 15; (with_reducible refine Calls.mono (hen.out _) ?_); rintro e w3 ⟨rfl, rfl⟩)
          | (go_at_call 11; (with_reducible refine Calls.mono (numPs_any _ _) ?_); rintro e w4 ⟨rfl, rfl⟩)
          | (go_at_call 18; (with_reducible refine Calls.mono (hla.out _) ?_); rintro e w5 ⟨rfl, rfl⟩)
          | (go_at_call 19; (with_reducible refine Calls.mono (hwa.out _) ?_); rintro e w5 ⟨rfl, rfl⟩)
          | (go_at_call 20; (with_reducible refine Calls.mono (hco.out _) ?_); rintro e w6 ⟨rfl, rfl⟩)
          | (go_at_call 6; (with_reducible refine Calls.mono (hwk.out _ hb2'.out) ?_); rintro e w7 ⟨rfl, hb7⟩))
        go_ret
        exact ⟨rfl, hB0.out.trans ((hb2'.out.trans (hb7.mono hb2'.out.size)).mono hzr)⟩
      | true =>
        have k1 := Has.new wr 71 #[.pointer none, .string ⟨#[]⟩, .slice none 0 0, .bool false, .string ⟨#[]⟩, .int .i64 0, .int .i64 0]
        have hb1 := (Below.refl wr.heap.size wr).alloc (Nat.le_refl _) (.cells #[.pointer none, .string ⟨#[]⟩, .slice none 0 0, .bool false, .string ⟨#[]⟩, .int .i64 0, .int .i64 0] 71)
        obtain ⟨w1, hw1⟩ : ∃ w1, wr.alloc (.cells #[.pointer none, .string ⟨#[]⟩, .slice none 0 0, .bool false, .string ⟨#[]⟩, .int .i64 0, .int .i64 0] 71) = w1 := ⟨_, rfl⟩
        have hw1' := Lib.hid hw1
        rw [hw1] at k1 hb1
        clear hw1
        have hno : ∀ W, Below w1.heap.size w1 W → NoP W (some ⟨wr.heap.size, 0, none⟩) := fun W hb => .inr ⟨wr.heap.size, rfl, (k1.below hb k1.lt).cell 5⟩
        have hwn := Lib.hid (writePs_none (some ⟨wr.heap.size, 0, none⟩) none 0 0 w1 (hno _ (Below.refl _ _)))
        have hen := Lib.hid (fun (W : World) (hb : Below w1.heap.size w1 W) => resetPs_none _ ⟨#[]⟩ W (hno W hb))
        have hla := Lib.hid (fun (W : World) (hb : Below w1.heap.size w1 W) => lastId_none _ W (hno W hb))
        have hwa := Lib.hid (fun (W : World) (hb : Below w1.heap.size w1 W) => waitsPs_none _ W (hno W hb))
        have hco := Lib.hid (fun (W : World) (hb : Below w1.heap.size w1 W) => copyPs_none _ W (hno W hb))
        have hb1' := Lib.hid hb1
        clear hno k1 hb1
        go_upto_region 29 with (fail)
        rw [hw1'.out]
        go_wp2_with (first
          | (go_at_call 17; (with_reducible refine Calls.mono hwn.out ?_); rintro e w2 ⟨rfl, hb2⟩; have hb2' := Lib.hid hb2; have hb6' := Lib.hid (hb1'.out.trans (hb2.mono hb1'.out.size)); clear hb2)
          | (go_at_call 15; (with_reducible refine Calls.mono (hen.out _ hb2'.out) ?_); rintro e w3 ⟨rfl, rfl⟩)
          | (go_at_call 11; (with_reducible refine Calls.mono (numPs_any _ _) ?_); rintro e w4 ⟨rfl, rfl⟩)
          | (go_at_call 18; (with_reducible refine Calls.mono (hla.out _ hb2'.out) ?_); rintro e w5 ⟨rfl, rfl⟩)
          | (go_at_call 19; (with_reducible refine Calls.mono (hwa.out _ hb2'.out) ?_); rintro e w5 ⟨rfl, rfl⟩)
          | (go_at_call 20; (with_reducible refine Calls.mono (hco.out _ hb2'.out) ?_); rintro e w6 ⟨rfl, rfl⟩)
          | (go_at_call 6; (with_reducible refine Calls.mono (hwk.out _ hb6'.out) ?_); rintro e w7 ⟨rfl, hb7⟩))
        go_ret
        exact ⟨rfl, hB0.out.trans ((hb6'.out.trans (hb7.mono hb6'.out.size)).mono hzr)⟩
end Go.Proofs.YtlcfpnegpihicaaGreatDoor
