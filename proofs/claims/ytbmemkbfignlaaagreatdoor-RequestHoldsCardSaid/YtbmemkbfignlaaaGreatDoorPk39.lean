import Derived.Test.YtbmemkbfignlaaaGreatDoorPk38
namespace Go.Proofs.YtbmemkbfignlaaaGreatDoor
open Go.RowKit Go.Shelf
attribute [local go_sem] Oper.semAt_some

/-! ## The best one -/
theorem downF_le (g : Nat → Bool) : ∀ i, downF g i ≤ i
  | 0 => Nat.le_refl _
  | i + 1 => by
    unfold downF
    split
    · exact Nat.le_refl _
    · have := downF_le g i; omega
theorem fitP_le (r : Ac.Rg) (k u : List UInt8) : fitP r k u ≤ 3 := by
  unfold fitP
  split
  · omega
  · exact downF_le _ 3
theorem fitP_eq (r : Ac.Rg) {k u : List UInt8} (hk : k ≠ [42]) (hu : u ≠ [42]) : fitP r k u = Ac.fits r k u := by
  unfold fitP Ac.fits
  by_cases hp : 0 < r.params
  · rw [if_pos hp, if_pos hp]
  · rw [if_neg hp, if_neg hp]
    by_cases h1 : r.ty = k
    · have hn : r.ty ≠ [42] := fun e => hk (h1.symm.trans e)
      by_cases h2 : r.sub = u
      · have hn2 : r.sub ≠ [42] := fun e => hu (h2.symm.trans e)
        rw [downF_yes (by simp [fitB, h1, h2]), if_neg (fun h => hn h.1), if_neg (fun h => hn2 h.2), if_pos ⟨h1, h2⟩]
      · rw [downF_no (by simp [fitB, h1, h2])]
        by_cases h3 : r.sub = [42]
        · rw [downF_yes (by simp [fitB, h1, h3]), if_neg (fun h => hn h.1), if_pos ⟨h1, h3⟩]
        · rw [downF_no (by simp [fitB, h3]), downF_no (by simp [fitB, h3]), if_neg (fun h => hn h.1), if_neg (fun h => h3 h.2), if_neg (fun h => h2 h.2)]
          rfl
    · rw [downF_no (by simp [fitB, h1]), downF_no (by simp [fitB, h1])]
      by_cases h4 : r.ty = [42] ∧ r.sub = [42]
      · rw [downF_yes (by simp [fitB, h4]), if_pos h4]
      · rw [downF_no (by
          show (r.ty == [42] && r.sub == [42]) = false
          rw [Bool.and_eq_false_iff, beq_eq_false_iff_ne, beq_eq_false_iff_ne]
          by_cases h5 : r.ty = [42]
          · exact .inr (fun h => h4 ⟨h5, h⟩)
          · exact .inl h5), if_neg h4, if_neg (fun h => h1 h.1), if_neg (fun h => h1 h.1)]
        rfl
def bestR (f : Ac.Rg → Nat) : Nat → Ac.Rg → List Ac.Rg → Ac.Rg
  | _, q, [] => q
  | n, q, r :: l => if n < f r then bestR f (f r) r l else bestR f n q l
theorem best_eq {k u : List UInt8} (hk : k ≠ [42]) (hu : u ≠ [42]) : ∀ (l : List Ac.Rg) (n : Nat) (q : Ac.Rg), Ac.best k u n q.quality l = (bestR (fun r => fitP r k u) n q l).quality
  | [], _, _ => rfl
  | r :: l, n, q => by
    unfold Ac.best bestR
    rw [fitP_eq r hk hu]
    split
    · exact best_eq hk hu l _ r
    · exact best_eq hk hu l n q
def rg0 : Ac.Rg := ⟨[], [], 0, 0⟩
set_option maxRecDepth 100000 in
theorem quality1_any (r : Ac.Rg) (k u : List UInt8) (kb ub : Nat) (w : World) (hk : Has w kb 9 #[.string ⟨k.toArray⟩]) (hu : Has w ub 9 #[.string ⟨u.toArray⟩]) :
    Calls Tryz.prog 184 #[rgV r, .pointer (some ⟨kb, 0, none⟩), .pointer (some ⟨ub, 0, none⟩)] w fun e w' => e = .returned (.int .i64 (fitP r k u : Int)) ∧ Below w.heap.size w w' := by
  obtain ⟨wa, hwa⟩ : ∃ wa, w.alloc (.cells (rgC r).toArray 116) = wa := ⟨_, rfl⟩
  have hBa : Below w.heap.size w wa := by rw [← hwa]; exact (Below.refl _ _).alloc (Nat.le_refl _) _
  have za : Has wa w.heap.size 116 (rgC r).toArray := by rw [← hwa]; exact Has.new _ _ _
  have c0 := za.cell 0
  have c1 := za.cell 1
  have c2 := za.cell 2
  have c3 := za.cell 3
  have d0 := (hk.below hBa hk.lt).cell 0
  have e0 := (hu.below hBa hu.lt).cell 0
  have h1 := Lib.hid (fun W => fitsA_any r k u W)
  have hBa' := Lib.hid hBa
  unfold rgV rgC at *
  clear hBa za hk hu
  go_enter Tryz.func184, Tryz.ntmps184
  go_wp2_with (go_at_call 185; (with_reducible refine Calls.mono (h1.out _) ?_); rintro e w2 ⟨rfl, hb2⟩; have hb2' := Lib.hid hb2; clear hb2)
  go_ret
  exact ⟨rfl, hBa'.out.trans (hb2'.out.mono hBa'.out.size)⟩
set_option maxRecDepth 100000 in
set_option maxHeartbeats 4000000 in
theorem best_any (k u : List UInt8) (kb ub : Nat) (A : Option Addr) (c : Nat) (l : List Ac.Rg) (w : World) (hk : Has w kb 9 #[.string ⟨k.toArray⟩]) (hu : Has w ub 9 #[.string ⟨u.toArray⟩]) (hl : l.length ≤ 1000000) (hR : Rgs w A l) :
    Calls Tryz.prog 186 #[.func (.func 184) #[] #[.pointer (some ⟨kb, 0, none⟩), .pointer (some ⟨ub, 0, none⟩)], .slice A l.length c] w fun e w' => e = .returned (rgV (bestR (fun r => fitP r k u) 0 rg0 l)) ∧ Below w.heap.size w w' := by
  obtain ⟨n, hn⟩ : ∃ n, w.heap.size = n := ⟨_, rfl⟩
  obtain ⟨wa, hwa⟩ : ∃ wa, w.alloc (.cells #[.string ⟨#[]⟩, .string ⟨#[]⟩, .int .i64 0, .int .i64 0] 116) = wa := ⟨_, rfl⟩
  have za0 : Has wa n 116 #[.string ⟨#[]⟩, .string ⟨#[]⟩, .int .i64 0, .int .i64 0] := by rw [← hwa, ← hn]; exact Has.new _ _ _
  have hza : wa.heap.size = n + 1 := by rw [← hwa, World.size_alloc, hn]
  obtain ⟨wb, hwb⟩ : ∃ wb, wa.alloc (.cells #[.string ⟨#[]⟩, .string ⟨#[]⟩, .int .i64 0, .int .i64 0] 116) = wb := ⟨_, rfl⟩
  have zb1 : Has wb (n + 1) 116 #[.string ⟨#[]⟩, .string ⟨#[]⟩, .int .i64 0, .int .i64 0] := by rw [← hwb, ← hza]; exact Has.new _ _ _
  have zb0 : Has wb n 116 #[.string ⟨#[]⟩, .string ⟨#[]⟩, .int .i64 0, .int .i64 0] := by rw [← hwb]; exact za0.alloc _
  have hBb : Below n w wb := by
    rw [← hwb, ← hwa, ← hn]
    exact ((Below.refl _ _).alloc (Nat.le_refl _) _).alloc (by simp) _
  have hzb : wb.heap.size = n + 2 := by rw [← hwb, World.size_alloc, hza]
  have hk' := Lib.hid (fun W (hb : Below n w W) => show Has W kb 9 #[.string ⟨k.toArray⟩] from (hb.block kb (by have := hk.lt; omega)).trans hk)
  have hu' := Lib.hid (fun W (hb : Below n w W) => show Has W ub 9 #[.string ⟨u.toArray⟩] from (hb.block ub (by have := hu.lt; omega)).trans hu)
  have hR' := Lib.hid (fun W (hb : Below n w W) => show Rgs W A l from hR.below (by rw [hn]; exact hb))
  have hBb' := Lib.hid hBb
  have zb0' := Lib.hid zb0
  have zb1' := Lib.hid zb1
  have hlI : (l.length : Int) ≤ 1000000 := by omega
  have hen := enters_of (P := Tryz.prog) Tryz.func184 (by kernel_rfl) rfl
  clear hk hu hR hBb zb0 zb1 za0
  go_enter Tryz.func186, Tryz.ntmps186
  go_wp2
  try rw [hwa]
  try rw [hwb]
  go_loopw [6, 8, 9, 12] (fun y6 _ _ x W => ∃ (j most : Nat) (q : Ac.Rg), j ≤ l.length ∧ most ≤ 3 ∧ x = .int .i64 (j : Int) ∧ y6 = .int .i64 (most : Int) ∧ Has W (n + 1) 116 #[.string ⟨q.ty.toArray⟩, .string ⟨q.sub.toArray⟩, .int .i64 (q.params : Int), .int .i64 (q.quality : Int)] ∧ Has W n 116 #[.string ⟨#[]⟩, .string ⟨#[]⟩, .int .i64 0, .int .i64 0] ∧ Hid (bestR (fun r => fitP r k u) 0 rg0 l = bestR (fun r => fitP r k u) most q (l.drop j)) ∧ Below n w W ∧ n + 2 ≤ W.heap.size) (fun _ _ _ x _ => l.length - (intOf x).toNat)
  case atStart => exact ⟨0, 0, rg0, Nat.zero_le _, by omega, rfl, rfl, zb1'.out, zb0'.out, Lib.hid (by rw [List.drop_zero]), hBb'.out, by omega⟩
  case round =>
    obtain ⟨j, most, q, hj, hm, rfl, rfl, k1, k0, hgo, hb, hz⟩ := hrel
    have k1' := Lib.hid k1
    have k0' := Lib.hid k0
    have hb' := Lib.hid hb
    by_cases hlt : j < l.length
    · have hltI : (j : Int) < (l.length : Int) := by omega
      obtain ⟨b, o, rfl, hbl, hcs⟩ := (hR'.out _ hb) (by omega)
      obtain ⟨r, hr⟩ : ∃ r, l[j] = r := ⟨_, rfl⟩
      obtain ⟨c0, c1, c2, c3⟩ := hcs j r (by rw [List.getElem?_eq_getElem hlt, hr])
      have hd : l.drop j = r :: l.drop (j + 1) := by rw [List.drop_eq_getElem_cons hlt, hr]
      have hgo1 := hgo.out
      rw [hd] at hgo1
      have hba := Lib.hid (show Below n w (wr.alloc (.cells #[.string ⟨r.ty.toArray⟩, .string ⟨r.sub.toArray⟩, .int .i64 (r.params : Int), .int .i64 (r.quality : Int)] 116)) from hb.alloc (by omega) _)
      have hq1 := quality1_any r k u kb ub (wr.alloc (.cells #[.string ⟨r.ty.toArray⟩, .string ⟨r.sub.toArray⟩, .int .i64 (r.params : Int), .int .i64 (r.quality : Int)] 116)) (hk'.out _ hba.out) (hu'.out _ hba.out)
      have hnew := Has.new wr 116 #[.string ⟨r.ty.toArray⟩, .string ⟨r.sub.toArray⟩, .int .i64 (r.params : Int), .int .i64 (r.quality : Int)]
      have y0 := hnew.cell 0
      have y1 := hnew.cell 1
      have y2 := hnew.cell 2
      have y3 := hnew.cell 3
      have hnew' := Lib.hid hnew
      have k1a := Lib.hid (k1.alloc (.cells #[.string ⟨r.ty.toArray⟩, .string ⟨r.sub.toArray⟩, .int .i64 (r.params : Int), .int .i64 (r.quality : Int)] 116))
      have k0a := Lib.hid (k0.alloc (.cells #[.string ⟨r.ty.toArray⟩, .string ⟨r.sub.toArray⟩, .int .i64 (r.params : Int), .int .i64 (r.quality : Int)] 116))
      unfold rgV rgC at hq1
      have hq1' := Lib.hid hq1
      have hfl := fitP_le r k u
      have hz1 : n + 2 ≤ (wr.alloc (.cells #[.string ⟨r.ty.toArray⟩, .string ⟨r.sub.toArray⟩, .int .i64 (r.params : Int), .int .i64 (r.quality : Int)] 116)).heap.size := by rw [World.size_alloc]; omega
      clear hcs hb hgo hd hr hq1 hnew k1 k0
      have hbs : ∀ most q, bestR (fun r => fitP r k u) most q (r :: l.drop (j + 1)) = if most < fitP r k u then bestR (fun r => fitP r k u) (fitP r k u) r (l.drop (j + 1)) else bestR (fun r => fitP r k u) most q (l.drop (j + 1)) := fun _ _ => rfl
      rw [hbs] at hgo1
      clear hbs
      obtain ⟨v, hv⟩ : ∃ v, fitP r k u = v := ⟨_, rfl⟩
      rw [hv] at hgo1 hq1' hfl
      by_cases hmv : most < v
      · rw [if_pos hmv] at hgo1
        have hgo' := Lib.hid hgo1
        have hmvI : (most : Int) < (v : Int) := by omega
        clear hgo1 hv hmv
        go_wp2_with (go_at_call 184; (with_reducible refine Calls.mono hq1'.out ?_); rintro e w3 ⟨rfl, hb3⟩; have hn3 := hnew'.out.below hb3 hnew'.out.lt; have a0 := hn3.cell 0; have a1 := hn3.cell 1; have a2 := hn3.cell 2; have a3 := hn3.cell 3; have k13 := k1a.out.below hb3 k1a.out.lt; have b0 := k13.cell 0; have b1 := k13.cell 1; have b2 := k13.cell 2; have b3 := k13.cell 3; have f0 := k13.free 0; have f1 := k13.free 1; have f2 := k13.free 2; have f3 := k13.free 3; have k13' := Lib.hid k13; have k03 := Lib.hid (k0a.out.below hb3 k0a.out.lt); have hb3' := Lib.hid hb3; clear hn3 k13 hb3)
        have hz3 := hb3'.out.size
        have hBn := Lib.hid (show Below n w w3 from hba.out.trans (hb3'.out.mono (by omega)))
        refine ⟨⟨j + 1, v, r, by omega, hfl, by go_num, rfl, ?_, ?_, hgo', S4_below hBn.out (by omega) _ _ _ _, ?_⟩, by simp [intOf]; omega⟩
        · exact S4_has k13'.out _ _ _ _
        · exact S4_other k03.out (by omega) _ _ _ _
        · simp [World.setCell]; omega
      · rw [if_neg hmv] at hgo1
        have hgo' := Lib.hid hgo1
        have hmvI : ¬ (most : Int) < (v : Int) := by omega
        clear hgo1 hv hmv
        go_wp2_with (go_at_call 184; (with_reducible refine Calls.mono hq1'.out ?_); rintro e w3 ⟨rfl, hb3⟩; have k13' := Lib.hid (k1a.out.below hb3 k1a.out.lt); have k03 := Lib.hid (k0a.out.below hb3 k0a.out.lt); have hb3' := Lib.hid hb3; clear hb3)
        have hz3 := hb3'.out.size
        exact ⟨⟨j + 1, most, q, by omega, hm, by go_num, rfl, k13'.out, k03.out, hgo', hba.out.trans (hb3'.out.mono (by omega)), by omega⟩, by simp [intOf]; omega⟩
    · obtain rfl : j = l.length := by omega
      have hgo1 := hgo.out
      rw [List.drop_length] at hgo1
      have hgo' := Lib.hid (show bestR (fun r => fitP r k u) 0 rg0 l = q from hgo1)
      have x0 := k1.cell 0
      have x1 := k1.cell 1
      have x2 := k1.cell 2
      have x3 := k1.cell 3
      have m0 := k0.cell 0
      have m1 := k0.cell 1
      have m2 := k0.cell 2
      have m3 := k0.cell 3
      have f0 := k0.free 0
      have f1 := k0.free 1
      have f2 := k0.free 2
      have f3 := k0.free 3
      have k9 := S4_has k0 (.string ⟨q.ty.toArray⟩) (.string ⟨q.sub.toArray⟩) (.int .i64 (q.params : Int)) (.int .i64 (q.quality : Int))
      have h9 := S4_below hb (Nat.le_refl n) (.string ⟨q.ty.toArray⟩) (.string ⟨q.sub.toArray⟩) (.int .i64 (q.params : Int)) (.int .i64 (q.quality : Int))
      have k9' := Lib.hid k9
      have h9' := Lib.hid h9
      clear k1 k0 hb hgo hgo1 k9 h9
      go_wp2
      have z0 := k9'.out.cell 0
      have z1 := k9'.out.cell 1
      have z2 := k9'.out.cell 2
      have z3 := k9'.out.cell 3
      refine bodyPost_ret (v := rgV q) ?_ rfl ⟨by rw [hgo'.out], by first | exact h9'.out | (rw [hn]; exact h9'.out)⟩
      simp [results, Tryz.results186, go_sem, z0, z1, z2, z3, rgV, rgC]
end Go.Proofs.YtbmemkbfignlaaaGreatDoor
