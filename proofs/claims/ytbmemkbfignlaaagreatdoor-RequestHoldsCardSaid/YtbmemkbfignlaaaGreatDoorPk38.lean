import Derived.Test.YtbmemkbfignlaaaGreatDoorPk37
import Derived.Test.YtbmemkbfignlaaaGreatDoorPk18
import Derived.Laws.EntriesVeiled
import Derived.Deep.QuietTactic
import Derived.BigQuiet
import Derived.Sort.BigQuietIn
namespace Go.Proofs.YtbmemkbfignlaaaGreatDoor
open Go.RowKit Go.Shelf
attribute [local go_sem] Oper.semAt_some
attribute [local go_sem] wideF_fn wideF_depth wideF_round

/-! ## How well a range fits -/
def fitsV : Value := .agg #[.func (.func 205) #[] #[], .func (.func 206) #[] #[], .func (.func 207) #[] #[], .func (.func 208) #[] #[]]
set_option maxRecDepth 100000 in
theorem fits_any (w : World) : Calls Tryz.prog 198 #[] w fun e w' => e = .returned fitsV ∧ Below w.heap.size w w' := by
  go_enter Tryz.func198, Tryz.ntmps198
  go_wp2
  have k := Has.new w 218 #[.func (.func 205) #[] #[], .func (.func 206) #[] #[], .func (.func 207) #[] #[], .func (.func 208) #[] #[]]
  have d0 := k.cell 0
  have d1 := k.cell 1
  have d2 := k.cell 2
  have d3 := k.cell 3
  simp at d0 d1 d2 d3
  refine bodyPost_ret (v := fitsV) ?_ rfl ⟨rfl, (Below.refl _ _).alloc (Nat.le_refl _) _⟩
  simp [results, Tryz.results198, go_sem, d0, d1, d2, d3, fitsV]
def fitB (r : Ac.Rg) (k u : List UInt8) : Nat → Bool
  | 0 => true
  | 1 => r.ty == [42] && r.sub == [42]
  | 2 => r.ty == k && r.sub == [42]
  | _ => r.ty == k && r.sub == u
def rgV (r : Ac.Rg) : Value := .agg (rgC r).toArray
set_option maxRecDepth 100000 in
theorem fit1_any (r : Ac.Rg) (k u : List UInt8) (w : World) : Calls Tryz.prog 205 #[rgV r, .string ⟨k.toArray⟩, .string ⟨u.toArray⟩] w fun e w' => e = .returned (.bool (fitB r k u 0)) ∧ Below w.heap.size w w' := by
  unfold rgV rgC
  go_enter Tryz.func205, Tryz.ntmps205
  go_wp2
  go_ret
  exact ⟨rfl, (Below.refl _ _).alloc (Nat.le_refl _) _⟩
set_option maxRecDepth 100000 in
theorem fit2_any (r : Ac.Rg) (k u : List UInt8) (w : World) : Calls Tryz.prog 206 #[rgV r, .string ⟨k.toArray⟩, .string ⟨u.toArray⟩] w fun e w' => e = .returned (.bool (fitB r k u 1)) ∧ Below w.heap.size w w' := by
  have z0 := Has.new w 116 #[.string ⟨r.ty.toArray⟩, .string ⟨r.sub.toArray⟩, .int .i64 (r.params : Int), .int .i64 (r.quality : Int)]
  have c0 := z0.cell 0
  have c1 := z0.cell 1
  unfold rgV rgC fitB
  cases h : r.ty == [42]
  all_goals
    go_enter Tryz.func206, Tryz.ntmps206
    go_wp2
    go_ret
    exact ⟨by simp, (Below.refl _ _).alloc (Nat.le_refl _) _⟩
set_option maxRecDepth 100000 in
theorem fit3_any (r : Ac.Rg) (k u : List UInt8) (w : World) : Calls Tryz.prog 207 #[rgV r, .string ⟨k.toArray⟩, .string ⟨u.toArray⟩] w fun e w' => e = .returned (.bool (fitB r k u 2)) ∧ Below w.heap.size w w' := by
  have z0 := Has.new w 116 #[.string ⟨r.ty.toArray⟩, .string ⟨r.sub.toArray⟩, .int .i64 (r.params : Int), .int .i64 (r.quality : Int)]
  have c0 := z0.cell 0
  have c1 := z0.cell 1
  unfold rgV rgC fitB
  cases h : r.ty == k
  all_goals
    go_enter Tryz.func207, Tryz.ntmps207
    go_wp2
    go_ret
    exact ⟨by simp, (Below.refl _ _).alloc (Nat.le_refl _) _⟩
set_option maxRecDepth 100000 in
theorem fit4_any (r : Ac.Rg) (k u : List UInt8) (w : World) : Calls Tryz.prog 208 #[rgV r, .string ⟨k.toArray⟩, .string ⟨u.toArray⟩] w fun e w' => e = .returned (.bool (fitB r k u 3)) ∧ Below w.heap.size w w' := by
  have z0 := Has.new w 116 #[.string ⟨r.ty.toArray⟩, .string ⟨r.sub.toArray⟩, .int .i64 (r.params : Int), .int .i64 (r.quality : Int)]
  have c0 := z0.cell 0
  have c1 := z0.cell 1
  unfold rgV rgC fitB
  cases h : r.ty == k
  all_goals
    go_enter Tryz.func208, Tryz.ntmps208
    go_wp2
    go_ret
    exact ⟨by simp, (Below.refl _ _).alloc (Nat.le_refl _) _⟩
/-! ### Fits -/
def downF (g : Nat → Bool) : Nat → Nat
  | 0 => 0
  | i + 1 => if g (i + 1) = true then i + 1 else downF g i
theorem downF_no {g : Nat → Bool} {i : Nat} (h : g (i + 1) = false) : downF g (i + 1) = downF g i := by simp [downF, h]
theorem downF_yes {g : Nat → Bool} {i : Nat} (h : g (i + 1) = true) : downF g (i + 1) = i + 1 := by simp [downF, h]
def fitP (r : Ac.Rg) (k u : List UInt8) : Nat := if 0 < r.params then 0 else downF (fitB r k u) 3
set_option maxRecDepth 100000 in
set_option maxHeartbeats 4000000 in
theorem fitsA_any (r : Ac.Rg) (k u : List UInt8) (w : World) : Calls Tryz.prog 185 #[rgV r, .string ⟨k.toArray⟩, .string ⟨u.toArray⟩] w fun e w' => e = .returned (.int .i64 (fitP r k u : Int)) ∧ Below w.heap.size w w' := by
  obtain ⟨n, hn⟩ : ∃ n, w.heap.size = n := ⟨_, rfl⟩
  obtain ⟨wa, hwa⟩ : ∃ wa, w.alloc (.cells (rgC r).toArray 116) = wa := ⟨_, rfl⟩
  have hBa : Below w.heap.size w wa := by rw [← hwa]; exact (Below.refl _ _).alloc (Nat.le_refl _) _
  have za : Has wa n 116 (rgC r).toArray := by rw [← hwa, ← hn]; exact Has.new _ _ _
  unfold rgC at hwa za
  have c2 := za.cell 2
  have hBa' := Lib.hid hBa
  have za' := Lib.hid za
  have h0 := Lib.hid (fits_any wa)
  have h1 := Lib.hid (fun W => fit1_any r k u W)
  have h2 := Lib.hid (fun W => fit2_any r k u W)
  have h3 := Lib.hid (fun W => fit3_any r k u W)
  have h4 := Lib.hid (fun W => fit4_any r k u W)
  unfold rgV rgC at h1 h2 h3 h4 ⊢
  unfold fitsV at h0
  clear hBa za
  by_cases hpp : 0 < r.params
  · have hI : (0 : Int) < (r.params : Int) := by omega
    have hF := Lib.hid (show fitP r k u = 0 by unfold fitP; rw [if_pos hpp])
    go_enter Tryz.func185, Tryz.ntmps185
    go_wp2
    go_ret
    exact ⟨by rw [hF.out]; rfl, hBa'.out⟩
  · have hI : ¬ (0 : Int) < (r.params : Int) := by omega
    have hF := Lib.hid (show fitP r k u = downF (fitB r k u) 3 by unfold fitP; rw [if_neg hpp])
    have hg0 : fitB r k u 0 = true := rfl
    generalize fitB r k u = g at *
    go_enter Tryz.func185, Tryz.ntmps185
    go_wp2_with (go_at_call 198; (with_reducible refine Calls.mono h0.out ?_); rintro e w1 ⟨rfl, hb1⟩; have hb1' := Lib.hid hb1; have k2 := Lib.hid (Has.new w1 218 #[.func (.func 205) #[] #[], .func (.func 206) #[] #[], .func (.func 207) #[] #[], .func (.func 208) #[] #[]]); clear hb1)
    obtain ⟨A, hA⟩ : ∃ A, w1.heap.size = A := ⟨_, rfl⟩
    rw [hA] at k2
    obtain ⟨w2, hw2⟩ : ∃ w2, w1.alloc (.cells #[.func (.func 205) #[] #[], .func (.func 206) #[] #[], .func (.func 207) #[] #[], .func (.func 208) #[] #[]] 218) = w2 := ⟨_, rfl⟩
    rw [hw2] at k2
    have hB2 := Lib.hid (show Below w.heap.size w w2 by
      rw [← hw2]
      exact (hBa'.out.trans (hb1'.out.mono hBa'.out.size)).alloc (by have := hBa'.out.size; have := hb1'.out.size; omega) _)
    have kr2 := Lib.hid (show Has w2 n 116 #[.string ⟨r.ty.toArray⟩, .string ⟨r.sub.toArray⟩, .int .i64 (r.params : Int), .int .i64 (r.quality : Int)] by
      rw [← hw2]
      exact (za'.out.below hb1'.out za'.out.lt).alloc _)
    try rw [hA]
    try rw [hw2]
    clear hA hw2 c2 h0
    go_loopw [8] (fun x W => ∃ i : Nat, i ≤ 3 ∧ x = .int .i64 (i : Int) ∧ Hid (downF g 3 = downF g i) ∧ Below w2.heap.size w2 W) (fun x _ => (intOf x).toNat)
    case atStart => exact ⟨3, by omega, rfl, Lib.hid rfl, Below.refl _ _⟩
    case round =>
      obtain ⟨i, hi, rfl, hd, hb⟩ := hrel
      have hb' := Lib.hid hb
      have hArr := k2.out.below hb k2.out.lt
      have hRr := kr2.out.below hb kr2.out.lt
      have y0 := fun (V' : Grown wr) => (hRr.below V'.below hRr.lt).cell 0
      have y1 := fun (V' : Grown wr) => (hRr.below V'.below hRr.lt).cell 1
      have y2 := fun (V' : Grown wr) => (hRr.below V'.below hRr.lt).cell 2
      have y3 := fun (V' : Grown wr) => (hRr.below V'.below hRr.lt).cell 3
      clear hb
      rcases (by omega : i = 0 ∨ i = 1 ∨ i = 2 ∨ i = 3) with rfl | rfl | rfl | rfl
      · have a0 := fun (V' : Grown wr) => (hArr.below V'.below hArr.lt).cell 0
        have q := Lib.hid (fun (V' : Grown wr) => callsIn_wide (n := 3 - 1).2 (grow_call V' (h1.out V'.v)))
        clear hArr hRr
        rw [hg0] at q
        go_upto_region 5 with (fail)
        refine (wpIn_wide (n := 3)).1 ?_
        refine wpIn_region_grow (by kernel_rfl) (by kernel_rfl) (by kernel_rfl) ?_
        iterate 8 (gi_big_quiet_step ((gi_at_call 205; exact q.out _)))
        refine wpQuietIn_nil ?_
        intro _ hw'
        obtain ⟨V', hw''⟩ := hw'
        subst hw''
        have hV := Lib.hid V'.below
        go_wp2
        go_ret
        refine ⟨by rw [hF.out, hd.out]; rfl, ?_⟩
        first | exact hB2.out.trans ((hb'.out.trans (hV.out.mono hb'.out.size)).mono hB2.out.size) | (rw [← hn]; exact hB2.out.trans ((hb'.out.trans (hV.out.mono hb'.out.size)).mono hB2.out.size))
      · have a0 := fun (V' : Grown wr) => (hArr.below V'.below hArr.lt).cell 1
        have q := Lib.hid (fun (V' : Grown wr) => callsIn_wide (n := 3 - 1).2 (grow_call V' (h2.out V'.v)))
        clear hArr hRr
        cases hgi : g 1 with
        | true =>
          rw [hgi] at q
          have hd' := Lib.hid (show downF g 1 = 1 from downF_yes hgi)
          clear hgi
          go_upto_region 5 with (fail)
          refine (wpIn_wide (n := 3)).1 ?_
          refine wpIn_region_grow (by kernel_rfl) (by kernel_rfl) (by kernel_rfl) ?_
          iterate 8 (gi_big_quiet_step ((gi_at_call 206; exact q.out _)))
          refine wpQuietIn_nil ?_
          intro _ hw'
          obtain ⟨V', hw''⟩ := hw'
          subst hw''
          have hV := Lib.hid V'.below
          go_wp2
          go_ret
          refine ⟨by first | (rw [hF.out, hd.out, hd'.out]; rfl) | (rw [hF.out, hd'.out]; rfl), ?_⟩
          first | exact hB2.out.trans ((hb'.out.trans (hV.out.mono hb'.out.size)).mono hB2.out.size) | (rw [← hn]; exact hB2.out.trans ((hb'.out.trans (hV.out.mono hb'.out.size)).mono hB2.out.size))
        | false =>
          rw [hgi] at q
          have hd' := Lib.hid (show downF g 3 = downF g 0 from hd.out.trans (downF_no hgi))
          clear hgi
          go_upto_region 5 with (fail)
          refine (wpIn_wide (n := 3)).1 ?_
          refine wpIn_region_grow (by kernel_rfl) (by kernel_rfl) (by kernel_rfl) ?_
          iterate 8 (gi_big_quiet_step ((gi_at_call 206; exact q.out _)))
          refine wpQuietIn_nil ?_
          intro _ hw'
          obtain ⟨V', hw''⟩ := hw'
          subst hw''
          have hV := Lib.hid V'.below
          go_wp2
          exact ⟨⟨0, by omega, rfl, hd', hb'.out.trans (hV.out.mono hb'.out.size)⟩, by simp [intOf]⟩
      · have a0 := fun (V' : Grown wr) => (hArr.below V'.below hArr.lt).cell 2
        have q := Lib.hid (fun (V' : Grown wr) => callsIn_wide (n := 3 - 1).2 (grow_call V' (h3.out V'.v)))
        clear hArr hRr
        cases hgi : g 2 with
        | true =>
          rw [hgi] at q
          have hd' := Lib.hid (show downF g 2 = 2 from downF_yes hgi)
          clear hgi
          go_upto_region 5 with (fail)
          refine (wpIn_wide (n := 3)).1 ?_
          refine wpIn_region_grow (by kernel_rfl) (by kernel_rfl) (by kernel_rfl) ?_
          iterate 8 (gi_big_quiet_step ((gi_at_call 207; exact q.out _)))
          refine wpQuietIn_nil ?_
          intro _ hw'
          obtain ⟨V', hw''⟩ := hw'
          subst hw''
          have hV := Lib.hid V'.below
          go_wp2
          go_ret
          refine ⟨by first | (rw [hF.out, hd.out, hd'.out]; rfl) | (rw [hF.out, hd'.out]; rfl), ?_⟩
          first | exact hB2.out.trans ((hb'.out.trans (hV.out.mono hb'.out.size)).mono hB2.out.size) | (rw [← hn]; exact hB2.out.trans ((hb'.out.trans (hV.out.mono hb'.out.size)).mono hB2.out.size))
        | false =>
          rw [hgi] at q
          have hd' := Lib.hid (show downF g 3 = downF g 1 from hd.out.trans (downF_no hgi))
          clear hgi
          go_upto_region 5 with (fail)
          refine (wpIn_wide (n := 3)).1 ?_
          refine wpIn_region_grow (by kernel_rfl) (by kernel_rfl) (by kernel_rfl) ?_
          iterate 8 (gi_big_quiet_step ((gi_at_call 207; exact q.out _)))
          refine wpQuietIn_nil ?_
          intro _ hw'
          obtain ⟨V', hw''⟩ := hw'
          subst hw''
          have hV := Lib.hid V'.below
          go_wp2
          exact ⟨⟨1, by omega, rfl, hd', hb'.out.trans (hV.out.mono hb'.out.size)⟩, by simp [intOf]⟩
      · have a0 := fun (V' : Grown wr) => (hArr.below V'.below hArr.lt).cell 3
        have q := Lib.hid (fun (V' : Grown wr) => callsIn_wide (n := 3 - 1).2 (grow_call V' (h4.out V'.v)))
        clear hArr hRr
        cases hgi : g 3 with
        | true =>
          rw [hgi] at q
          have hd' := Lib.hid (show downF g 3 = 3 from downF_yes hgi)
          clear hgi
          go_upto_region 5 with (fail)
          refine (wpIn_wide (n := 3)).1 ?_
          refine wpIn_region_grow (by kernel_rfl) (by kernel_rfl) (by kernel_rfl) ?_
          iterate 8 (gi_big_quiet_step ((gi_at_call 208; exact q.out _)))
          refine wpQuietIn_nil ?_
          intro _ hw'
          obtain ⟨V', hw''⟩ := hw'
          subst hw''
          have hV := Lib.hid V'.below
          go_wp2
          go_ret
          refine ⟨by first | (rw [hF.out, hd.out, hd'.out]; rfl) | (rw [hF.out, hd'.out]; rfl), ?_⟩
          first | exact hB2.out.trans ((hb'.out.trans (hV.out.mono hb'.out.size)).mono hB2.out.size) | (rw [← hn]; exact hB2.out.trans ((hb'.out.trans (hV.out.mono hb'.out.size)).mono hB2.out.size))
        | false =>
          rw [hgi] at q
          have hd' := Lib.hid (show downF g 3 = downF g 2 from downF_no hgi)
          clear hgi
          go_upto_region 5 with (fail)
          refine (wpIn_wide (n := 3)).1 ?_
          refine wpIn_region_grow (by kernel_rfl) (by kernel_rfl) (by kernel_rfl) ?_
          iterate 8 (gi_big_quiet_step ((gi_at_call 208; exact q.out _)))
          refine wpQuietIn_nil ?_
          intro _ hw'
          obtain ⟨V', hw''⟩ := hw'
          subst hw''
          have hV := Lib.hid V'.below
          go_wp2
          exact ⟨⟨2, by omega, rfl, hd', hb'.out.trans (hV.out.mono hb'.out.size)⟩, by simp [intOf]⟩
end Go.Proofs.YtbmemkbfignlaaaGreatDoor
