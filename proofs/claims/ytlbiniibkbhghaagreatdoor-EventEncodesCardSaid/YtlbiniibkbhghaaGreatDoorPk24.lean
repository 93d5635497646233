import Derived.Test.YtlbiniibkbhghaaGreatDoorPk22
import Derived.Test.YtlbiniibkbhghaaGreatDoorPk12
import Derived.Test.YtlbiniibkbhghaaGreatDoorPk23
import Derived.Deep.CutRange
import Derived.Test.YtlbiniibkbhghaaGreatDoorPk10
namespace Go.Proofs.YtlbiniibkbhghaaGreatDoor
open Go.RowKit Go.Shelf
attribute [local go_sem] Oper.semAt_some

/-! ## The document's Bytes -/
def btsE (e : Ev) (k : Nat) : List UInt8 := endsL ((linesE e).take k)
theorem btsE_next {e : Ev} {k : Nat} {p : List UInt8} (h : (linesE e)[k]? = some p) : btsE e (k + 1) = btsE e k ++ p ++ [10] := by
  obtain ⟨hk, rfl⟩ := List.getElem?_eq_some_iff.1 h
  unfold btsE
  rw [List.take_succ_eq_append_getElem hk, endsL_snoc, List.append_assoc]
set_option maxRecDepth 10000 in
theorem btsE_len {e : Ev} (hf : fewE e) (k : Nat) : (btsE e k).length ≤ k * 1001 := by
  unfold btsE
  have key : ∀ l : List (List UInt8), (∀ x ∈ l, x.length ≤ 1000) → (endsL l).length ≤ l.length * 1001 := by
    intro l
    induction l with
    | nil => intro _; simp [endsL]
    | cons x r ih =>
      intro h
      have h1 := h x (by simp)
      have h2 := ih (fun y hy => h y (by simp [hy]))
      have e1 : endsL (x :: r) = (x ++ [10]) ++ endsL r := by simp [endsL]
      rw [e1]
      simp only [List.length_append, List.length_cons, List.length_nil]
      omega
  have hm : ∀ x ∈ (linesE e).take k, x.length ≤ 1000 := fun x hx => by
    obtain ⟨i, hi⟩ := List.mem_iff_getElem?.1 (List.mem_of_mem_take hx)
    have := lnE_len hf i
    unfold lnAt at this
    rw [List.getD_eq_getElem?_getD, show linesOf (fieldsE e) = linesE e from rfl, hi] at this
    exact this
  have := key _ hm
  have h2 : ((linesE e).take k).length ≤ k := by rw [List.length_take]; exact Nat.min_le_left _ _
  have h3 : ((linesE e).take k).length * 1001 ≤ k * 1001 := Nat.mul_le_mul_right _ h2
  omega
set_option maxRecDepth 10000 in
theorem linesE_many {e : Ev} (hf : fewE e) : (linesE e).length ≤ 310 := by
  rw [linesE_split]
  have h1 : (idF e).length ≤ 1 := by unfold idF oneF; split <;> simp
  have h2 : (tyF e).length ≤ 1 := by unfold tyF oneF; split <;> simp
  have h3 := partsL_many e.2.2
  have h4 : (dtF e (partsL e.2.2).length).length ≤ (partsL e.2.2).length := by unfold dtF; rw [List.length_map, List.length_take]; exact Nat.min_le_left _ _
  have := hf.2.2
  simp only [List.length_append, List.length_singleton]
  omega
set_option maxRecDepth 100000 in
set_option maxHeartbeats 2000000 in
theorem refBytesE_any (e : Ev) (w : World) (hf : fewE e) (hr : rightE e = true) : Calls Tryz.prog 15 #[evV e] w fun r w' => r = .returned (.string ⟨(bytesE e).toArray⟩) ∧ Below w.heap.size w w' := by
  have hb1 : Below w.heap.size w (w.alloc (.cells (evCells e) 23)) := (Below.refl _ _).alloc (Nat.le_refl _) _
  have h := Lib.hid (refLinesE_yes e (w.alloc (.cells (evCells e) 23)) hf hr)
  have hb1' := Lib.hid hb1
  have hmany := linesE_many hf
  have hlen := fun k => btsE_len hf k
  have hll := fun (k : Nat) (p : List UInt8) (hp : (linesE e)[k]? = some p) => show p.length ≤ 1000 from by
    have := lnE_len hf k
    unfold lnAt at this
    rwa [List.getD_eq_getElem?_getD, show linesOf (fieldsE e) = linesE e from rfl, hp] at this
  have hbs : btsE e (linesE e).length = bytesE e := by unfold btsE bytesE; rw [List.take_length]
  have hbs' := Lib.hid hbs
  have hnext := Lib.hid (fun (k : Nat) (p : List UInt8) (hp : (linesE e)[k]? = some p) => btsE_next hp)
  have hlen' := Lib.hid hlen
  have hll' := Lib.hid hll
  clear hb1 hr hf hlen hll hbs
  obtain ⟨L, hL⟩ : ∃ L, linesE e = L := ⟨_, rfl⟩
  rw [hL] at h hmany hll' hnext hbs'
  obtain ⟨N, hN⟩ : ∃ N, L.length = N := ⟨_, rfl⟩
  have hN' := Lib.hid hN
  rw [hN] at hmany
  clear hL hN
  unfold evV evCells at *
  go_enter Tryz.func15, Tryz.ntmps15
  go_wp2_with (go_at_call 16; (with_reducible refine Calls.mono h.out ?_); rintro r w2 ⟨v2, rfl, hs2, hb2⟩; obtain ⟨A2, g2, c2, cur2, rfl, hin⟩ := hs2.shape; rw [hN'.out]; have hin' := Lib.hid hin; have hb2' := Lib.hid (hb1'.out.trans (hb2.mono (by simp))); clear hs2 hin hb2)
  go_loopw [3, 5] (fun v x W => ∃ k : Nat, k ≤ N ∧ x = .int .i64 (k : Int) ∧ v = .string ⟨(btsE e k).toArray⟩ ∧ W = w2) (fun _ x _ => N - (intOf x).toNat)
  case atStart => exact ⟨0, Nat.zero_le _, rfl, rfl, rfl⟩
  case round =>
    obtain ⟨k, hk, rfl, rfl, rfl⟩ := hrel
    by_cases hlt : k < N
    · have hltI : (k : Int) < (N : Int) := by omega
      obtain ⟨p, hp⟩ : ∃ p, L[k]? = some p := ⟨L[k]'(by rw [hN'.out]; exact hlt), List.getElem?_eq_getElem _⟩
      obtain ⟨rfl, _, hrow⟩ := hin'.out.1 (by have := hN'.out; omega)
      have ck := hrow.cell k
      rw [hin'.out.2 k p hp] at ck
      have hnx := Lib.hid (hnext.out k p hp)
      have hl1 := hlen'.out k
      have hl2 := hll'.out k p hp
      obtain ⟨b, hb⟩ : ∃ b, btsE e k = b := ⟨_, rfl⟩
      rw [hb] at hnx hl1 ⊢
      have hb3 : b.length ≤ 1000000 := by omega
      have hc1 := cat_b b p
      have hc2 := cat_b (b ++ p) [10]
      clear hrow hp hl1 hb
      go_wp2_with fail
      exact ⟨⟨k + 1, by omega, by go_num, by rw [hnx.out]; simp, trivial⟩, by simp [intOf]; omega⟩
    · obtain rfl : k = N := by omega
      go_wp2_with fail
      go_ret
      exact ⟨by rw [← hbs'.out, hN'.out]; rfl, hb2'.out⟩

/-! ## Size -/
set_option maxRecDepth 100000 in
theorem size_any (e : Ev) (w : World) (hl : ShortE e) (hT : EvT w) : Calls Tryz.prog 10 #[evV e] w fun r w' => ((rightE e = true ∧ r = .returned (.tuple #[.int .i64 ((bytesE e).length : Int), .int .i64 0])) ∨ (rightE e = false ∧ r = .returned (.tuple #[.int .i64 0, .int .i64 2]))) ∧ Below w.heap.size w w' := by
  have hb1 : Below w.heap.size w (w.alloc (.cells (evCells e) 23)) := (Below.refl _ _).alloc (Nat.le_refl _) _
  have h := Lib.hid (encode_any e (w.alloc (.cells (evCells e) 23)) hl (hT.below hb1))
  have hb1' := Lib.hid hb1
  clear hb1 hT
  unfold evV evCells at *
  unfold EncodeR at h
  go_enter Tryz.func10, Tryz.ntmps10
  go_wp2_with fail
  with_reducible refine Calls.mono h.out ?_
  rintro r w2 ⟨⟨hr, v, rfl, hv⟩ | ⟨hr, rfl⟩, hb2⟩
  · obtain ⟨A, c, rfl, _⟩ := hv.shape
    have hr' := Lib.hid hr
    have hb2' := Lib.hid (hb1'.out.trans (hb2.mono (by simp)))
    clear hv hb2 hr
    go_wp2
    exact bodyPost_ret (v := .tuple #[.int .i64 ((bytesE e).length : Int), .int .i64 0]) (by simp [results, Tryz.results10, go_sem]) rfl ⟨.inl ⟨hr'.out, rfl⟩, hb2'.out⟩
  · have hr' := Lib.hid hr
    have hb2' := Lib.hid (hb1'.out.trans (hb2.mono (by simp)))
    clear hb2 hr
    go_wp2
    exact bodyPost_ret (v := .tuple #[.int .i64 0, .int .i64 2]) (by simp [results, Tryz.results10, go_sem]) rfl ⟨.inr ⟨hr'.out, rfl⟩, hb2'.out⟩
end Go.Proofs.YtlbiniibkbhghaaGreatDoor

namespace Go.Proofs.YtlbiniibkbhghaaGreatDoor
open Go.RowKit Go.Shelf
attribute [local go_sem] Oper.semAt_some
attribute [local go_sem] wide_fn wide_depth wide_round

/-! ## EventEncodes -/
def EncZ (e : Ev) (w0 W : World) (r : Ending) (w' : World) : Prop :=
  ∃ A m c n, r = .returned (.tuple #[.slice A m c, .int .i64 n]) ∧ ((n = 0 ∧ rightE e = true ∧ Bs w' W.heap.size (.slice A m c) (bytesE e)) ∨ (n = 2 ∧ rightE e = false ∧ m = 0)) ∧ Below W.heap.size W w' ∧ Below w0.heap.size w0 w'
theorem encodeZ (e : Ev) (w0 W : World) (hb : Below w0.heap.size w0 W) (hT : EvT w0) (hl : ShortE e) : Calls Tryz.prog 9 #[evV e] W (EncZ e w0 W) := by
  refine (encode_any e W hl (hT.below hb)).mono ?_
  rintro r w' ⟨⟨hr, v, rfl, hv⟩ | ⟨hr, rfl⟩, hb2⟩
  · obtain ⟨A, m, c, rfl⟩ := bs_slice hv
    exact ⟨A, m, c, 0, rfl, .inl ⟨rfl, hr, hv⟩, hb2, hb.trans (hb2.mono hb.size)⟩
  · exact ⟨none, 0, 0, 2, rfl, .inr ⟨rfl, hr, rfl⟩, hb2, hb.trans (hb2.mono hb.size)⟩
set_option maxRecDepth 100000 in
set_option maxHeartbeats 2000000 in
theorem enc_far (x : Ev) (w : World) (hx : WideE x) (hT : EvT w) (hD : Tab w) (h : ¬ fewE x) : Calls Tryz.prog 3 #[evV x] w fun r w' => r = .returned (.bool true) ∧ Below w.heap.size w w' := by
  have hb3 : Below w.heap.size w (w.alloc (.cells (evCells x) 23)) := (Below.refl _ _).alloc (Nat.le_refl _) _
  have hfx := Lib.hid (fun W (hb : Below w.heap.size w W) => carryE w W hb (few_any x W hx))
  have hwk := Lib.hid (fun W (hb : Below w.heap.size w W) => carryE w W hb (worksE_any W (hT.below hb) (hD.below hb)))
  have hb3' := Lib.hid hb3
  rw [decide_eq_false h] at hfx
  clear hb3 hT hD hx h
  unfold evV evCells at *
  go_enter Tryz.func3, Tryz.ntmps3
  go_wp2_with (first
    | (go_at_call 7; (with_reducible refine Calls.mono (hfx.out _ hb3'.out) ?_); rintro r w4 ⟨rfl, hc4, hb4⟩; have hb4' := Lib.hid hb4; clear hc4 hb4)
    | (go_at_call 8; (with_reducible refine Calls.mono (hwk.out _ hb4'.out) ?_); rintro r w6 ⟨rfl, hc6, hb6⟩; have hb6' := Lib.hid hb6; clear hc6 hb6))
  go_ret
  exact ⟨rfl, hb6'.out⟩
set_option maxRecDepth 100000 in
set_option maxHeartbeats 4000000 in
theorem enc_near (x : Ev) (w : World) (hx : fewE x) (hT : EvT w) (hD : Tab w) : Calls Tryz.prog 3 #[evV x] w fun r w' => r = .returned (.bool true) ∧ Below w.heap.size w w' := by
  have hb3 : Below w.heap.size w (w.alloc (.cells (evCells x) 23)) := (Below.refl _ _).alloc (Nat.le_refl _) _
  have hfx := Lib.hid (fun W (hb : Below w.heap.size w W) => carryE w W hb (few_any x W (wide_of hx)))
  have hwk := Lib.hid (fun W (hb : Below w.heap.size w W) => carryE w W hb (worksE_any W (hT.below hb) (hD.below hb)))
  have hex := Lib.hid (fun W (hb : Below w.heap.size w W) => encodeZ x w W hb hT (short_of hx))
  have hsz := Lib.hid (fun W (hb : Below w.heap.size w W) => (size_any x W (short_of hx) (hT.below hb)).mono (R' := fun r w' => ∃ n e : Int, r = .returned (.tuple #[.int .i64 n, .int .i64 e]) ∧ ((rightE x = true ∧ n = ((bytesE x).length : Int) ∧ e = 0) ∨ (rightE x = false ∧ n = 0 ∧ e = 2)) ∧ Below W.heap.size W w' ∧ Below w.heap.size w w') (fun r w' h => by
    obtain ⟨h | h, hb2⟩ := h
    · exact ⟨_, _, h.2, .inl ⟨h.1, rfl, rfl⟩, hb2, hb.trans (hb2.mono hb.size)⟩
    · exact ⟨_, _, h.2, .inr ⟨h.1, rfl, rfl⟩, hb2, hb.trans (hb2.mono hb.size)⟩))
  have hck := Lib.hid (fun W (hb : Below w.heap.size w W) => carryE w W hb (check_any x W (short_of hx) (hT.below hb)))
  have hrs := Lib.hid (fun W => reserved_any x W)
  have hrg := Lib.hid (fun W => refRightE_any x W (by obtain ⟨h1, h2, h3⟩ := hx; omega))
  have hby := Lib.hid (fun W hr => refBytesE_any x W hx hr)
  have hkx := Lib.hid (Has.new w 23 (evCells x))
  have hb3' := Lib.hid hb3
  rw [decide_eq_true hx] at hfx
  have hT' := Lib.hid hT
  clear hb3 hT hD hx
  unfold EncZ at hex
  unfold resetT at hrs
  unfold evV evCells at *
  go_enter Tryz.func3, Tryz.ntmps3
  go_upto_region 6 with (first
    | (go_at_call 7; (with_reducible refine Calls.mono (hfx.out _ hb3'.out) ?_); rintro r w4 ⟨rfl, hc4, hb4⟩; have hb4' := Lib.hid hb4; have hx4 := Lib.hid (hkx.out.below hc4 hkx.out.lt); have y0 := hx4.out.cell 0; have y1 := hx4.out.cell 1; have y2 := hx4.out.cell 2; clear hc4 hb4)
    | (go_at_call 9; (with_reducible refine Calls.mono (hex.out _ hb4'.out) ?_); rintro r w5 ⟨A5, m5, c5, n5, rfl, hn5, hc5, hb5⟩; have hb5' := Lib.hid hb5; have hx5 := Lib.hid (hx4.out.below hc5 hx4.out.lt); have z0 := hx5.out.cell 0; have z1 := hx5.out.cell 1; have z2 := hx5.out.cell 2; have hn5' := Lib.hid hn5; clear hc5 hb5 hn5 y0 y1 y2)
    | (go_at_call 10; (with_reducible refine Calls.mono (hsz.out _ hb5'.out) ?_); rintro r w6 ⟨n6, e6, rfl, hn6, hc6, hb6⟩; have hb6' := Lib.hid hb6; have hx6 := Lib.hid (hx5.out.below hc6 hx5.out.lt); have y0 := hx6.out.cell 0; have y1 := hx6.out.cell 1; have y2 := hx6.out.cell 2; have hn6' := Lib.hid hn6; have hn56 := Lib.hid (hn5'.out.imp (fun h => (⟨h.1, h.2.1, h.2.2.below hc6⟩ : _ ∧ _ ∧ _)) id); clear hc6 hb6 hn6 z0 z1 z2)
    | (go_at_call 11; (with_reducible refine Calls.mono (hck.out _ hb6'.out) ?_); rintro r w7 ⟨rfl, hc7, hb7⟩; have hb7' := Lib.hid hb7; have hx7 := Lib.hid (hx6.out.below hc7 hx6.out.lt); have hn57 := Lib.hid (hn56.out.imp (fun h => (⟨h.1, h.2.1, h.2.2.below hc7⟩ : _ ∧ _ ∧ _)) id); clear hc7 hb7 y0 y1 y2))
  go_cut [29] from 24 to 29 (fun c wx => c = .bool false ∧ Below w7.heap.size w7 wx)
  case first =>
    have x0 := fun (V' : Grown w7) => (hx7.out.below V'.below hx7.out.lt).cell 0
    have x1 := fun (V' : Grown w7) => (hx7.out.below V'.below hx7.out.lt).cell 1
    have x2 := fun (V' : Grown w7) => (hx7.out.below V'.below hx7.out.lt).cell 2
    have hro := Lib.hid (fun (V' : Grown w7) => callsIn_wide (n := 3 - 1).2 (grow_call V' (hrs.out V'.v)))
    obtain ⟨d, hd⟩ : ∃ d, (x.2.1 == [115, 116, 114, 101, 97, 109, 45, 114, 101, 115, 101, 116]) = d := ⟨_, rfl⟩
    rw [hd] at hro
    refine (wpIn_wide (n := 3)).1 ?_
    refine wpIn_region_grow (by kernel_rfl) (by kernel_rfl) (by kernel_rfl) ?_
    cases d
    all_goals
      iterate 6 (gi_big_quiet_step ((gi_at_call 12; exact hro.out _)))
      refine wpQuietIn_nil ?_
      intro _ hw'
      obtain ⟨V', hw''⟩ := hw'
      subst hw''
      go_wp2
      go_meet
      exact ⟨rfl, V'.below⟩
  case rest =>
    obtain ⟨rfl, hb8⟩ := hcut
    have hb08 := Lib.hid (hb7'.out.trans (hb8.mono hb7'.out.size))
    have hx8 := Lib.hid (hx7.out.below hb8 hx7.out.lt)
    have hn58 := Lib.hid (hn57.out.imp (fun h => (⟨h.1, h.2.1, h.2.2.below hb8⟩ : _ ∧ _ ∧ _)) id)
    have x0 := hx8.out.cell 0
    have x1 := hx8.out.cell 1
    have x2 := hx8.out.cell 2
    have hrw := Lib.hid (hrg.out wc)
    obtain ⟨w8, hw8⟩ : ∃ w8, w8 = wc := ⟨_, rfl⟩
    subst hw8
    clear hb8 hx7 hn57 hn56 hn5' hx6 hx5 hx4 hkx hfx hex hsz hck hrs
    rcases hn58.out with ⟨rfl, hr, hv⟩ | ⟨rfl, hr, rfl⟩
    · obtain ⟨rfl, rfl⟩ : n6 = ((bytesE x).length : Int) ∧ e6 = 0 := by
        rcases hn6'.out with h | h
        · exact h.2
        · rw [hr] at h; cases h.1
      obtain ⟨A, c, he, hrow⟩ := hv.shape
      injection he with h1 h2 h3
      subst h1; subst h3
      have herr : errE x = 0 := by unfold errE; rw [hr]; rfl
      rw [hr] at hrw
      have hbyt := Lib.hid (fun W => hby.out W hr)
      have hv' := Lib.hid hv
      rw [herr]
      obtain ⟨l, hl⟩ : ∃ l, bytesE x = l := ⟨_, rfl⟩
      rw [hl] at hbyt hv' h2 ⊢
      subst h2
      clear hl hn58 hn6' hr hv hrow herr hby
      go_upto_region 10 with (go_at_call 13; (with_reducible refine Calls.mono hrw.out ?_); rintro r w9 ⟨rfl, hb9⟩; have hb09 := Lib.hid (hb08.out.trans (hb9.mono hb08.out.size)); have hx9 := Lib.hid (hx8.out.below hb9 hx8.out.lt); have hv9 := Lib.hid (hv'.out.below hb9); clear hb9 x0 x1 x2)
      have x0 := fun (V' : Grown w9) => (hx9.out.below V'.below hx9.out.lt).cell 0
      have x1 := fun (V' : Grown w9) => (hx9.out.below V'.below hx9.out.lt).cell 1
      have x2 := fun (V' : Grown w9) => (hx9.out.below V'.below hx9.out.lt).cell 2
      have cv := fun (V' : Grown w9) => bs_conv (hv9.out.below V'.below)
      have c1 := Lib.hid (fun (V' : Grown w9) => callsIn_wide (n := 3 - 1).2 (grow_call V' (hbyt.out V'.v)))
      have c2 := Lib.hid (fun (V' : Grown w9) (z : Int) => callsIn_wide (n := 3 - 1).2 (grow_call V' ((numE_any z V'.v).mono fun e w' h => ⟨h.1, h.2 ▸ Below.refl _ _⟩)))
      have c3 := Lib.hid (fun (V' : Grown w9) => callsIn_wide (n := 3 - 1).2 (grow_call V' ((hwk.out V'.v (hb09.out.trans (V'.below.mono hb09.out.size))).mono fun e w' h => ⟨h.1, h.2.1⟩)))
      refine (wpIn_wide (n := 3)).1 ?_
      refine wpIn_region_grow (by kernel_rfl) (by kernel_rfl) (by kernel_rfl) ?_
      iterate 26 (gi_big_quiet_step (first
        | (gi_at_call 15; exact c1.out _)
        | (gi_at_call 14; exact c2.out _ _)
        | (gi_at_call 8; exact c3.out _)))
      refine wpQuietIn_nil ?_
      intro _ hw'
      obtain ⟨V', hw''⟩ := hw'
      subst hw''
      have hbV := Lib.hid (hb09.out.trans (V'.below.mono hb09.out.size))
      clear x0 x1 x2 cv
      go_wp2
      go_ret
      exact ⟨rfl, hbV.out⟩
    · obtain ⟨rfl, rfl⟩ : n6 = 0 ∧ e6 = 2 := by
        rcases hn6'.out with h | h
        · rw [hr] at h; cases h.1
        · exact h.2
      have herr : errE x = 2 := by unfold errE; rw [hr]; rfl
      rw [hr] at hrw
      rw [herr]
      clear hn58 hn6' hr herr hby
      go_wp2_with (first
        | (go_at_call 13; (with_reducible refine Calls.mono hrw.out ?_); rintro r w9 ⟨rfl, hb9⟩; have hb09 := Lib.hid (hb08.out.trans (hb9.mono hb08.out.size)); clear hb9)
        | (go_at_call 14; (with_reducible refine Calls.mono (numE_any _ _) ?_); rintro e w15 ⟨rfl, rfl⟩)
        | (go_at_call 8; (with_reducible refine Calls.mono (hwk.out _ hb09.out) ?_); rintro r w10 ⟨rfl, hc10, hb10⟩; have hb10' := Lib.hid hb10; clear hc10 hb10))
      go_ret
      exact ⟨rfl, hb10'.out⟩
end Go.Proofs.YtlbiniibkbhghaaGreatDoor
