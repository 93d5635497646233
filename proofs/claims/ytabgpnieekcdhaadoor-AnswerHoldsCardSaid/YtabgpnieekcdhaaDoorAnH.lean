import Derived.Test.YtabgpnieekcdhaaDoorAnF
import Derived.Test.YtabgpnieekcdhaaDoorAnG
import Derived.Test.YtabgpnieekcdhaaDoorTkG
namespace Go.Proofs.YtabgpnieekcdhaaDoor
open Go.RowKit Go.Shelf
attribute [local go_sem] Oper.semAt_some
attribute [local go_sem] wideF_fn wideF_depth wideF_round

/-! ## The faces -/
/-- The program's tables. -/
def TabN (W : World) : Prop := Tab W ∧ TabS W
theorem TabN.below {W W' : World} (h : TabN W) (hb : Below W.heap.size W W') : TabN W' := ⟨h.1.below hb, h.2.below hb⟩
/-- Bytes of the call's own, or an error. -/
def AnsR (o : Option (List UInt8)) (w : World) (e : Ending) (w' : World) : Prop :=
  (match o with | some b => ∃ v, e = .returned (.tuple #[v, .int .i64 0]) ∧ Bz w' w.heap.size v b | none => e = .returned (.tuple #[.slice none 0 0, .int .i64 2])) ∧ Below w.heap.size w w'
theorem plainBytes_any (j : Nat) (t : List UInt8) (w : World) (hT : Tab w) (hj : j < 8) (ht : t.length ≤ 100000) (u : Nat) (hU : UnB w u (An.firstT (An.stat j).1 (An.stat j).2) (An.fieldsT (An.stat j).1 (t.length + 1)) ⟨(t ++ [10]).toArray⟩) :
    Calls Tryd.prog 28 #[.pointer (some ⟨u, 0, none⟩)] w fun e w' => ∃ v, e = .returned v ∧ Bz w' w.heap.size v (An.plainB (An.stat j).1 (An.stat j).2 t) ∧ Below w.heap.size w w' := by
  have hfl := An.first_len hj
  have h4 := An.fields_len (An.stat j).1 (t.length + 1)
  exact bytes_any u _ _ (t ++ [10]) w hU (by omega) (by omega) (fun q h => by have := An.fields_small (s := (An.stat j).1) (n := t.length + 1) (by omega) q h; omega) (by omega) (by simp; omega) (An.plain_head hj)
set_option maxRecDepth 100000 in
set_option maxHeartbeats 8000000 in
theorem plainF_any (s : Int) (t : List UInt8) (w : World) (hT : TabN w) (ht : t.length ≤ 140737488355328) :
    Calls Tryd.prog 9 #[.int .i64 s, .string ⟨t.toArray⟩] w (AnsR (An.plainO s t) w) := by
  have hr := Lib.hid (reason_any s w hT.2)
  unfold AnsR An.plainO
  cases hrs : An.reason s with
  | none =>
    rw [hrs] at hr
    simp only at hr ⊢
    clear hrs
    go_enter Tryd.func9, Tryd.ntmps9
    go_wp2
    refine wp_scope_on 0 rfl ?_
    go_wp2_with (go_at_call 8; (with_reducible refine Calls.mono hr.out ?_); rintro e w6 ⟨rfl, hb6⟩; have hb6' := Lib.hid hb6; clear hb6)
    go_step3
    refine ⟨rfl, ?_⟩
    go_wp2
    rw [Exit.noGoto_ret]
    go_ret2
    exact ⟨rfl, hb6'.out⟩
  | some r =>
    rw [hrs] at hr
    simp only at hr ⊢
    by_cases hl : t.length ≤ 1000
    · rw [if_pos hl]
      obtain ⟨j, hj, hs, hr2⟩ := An.reason_some hrs
      have hli : ¬ (1000 : Int) < (t.length : Int) := by omega
      subst hs hr2
      have hsv := An.stat_val hj
      have hp := Lib.hid (fun W (hW : Below w.heap.size w W) => plain_any (An.stat j).1 (An.stat j).2 t W (hT.1.below hW) (by omega) (by omega) (by omega))
      have hb := Lib.hid (fun W (hW : Below w.heap.size w W) u hU => plainBytes_any j t W (hT.1.below hW) hj (by omega) u hU)
      rw [Int.toNat_natCast]
      clear hrs hsv hT hl ht
      generalize An.plainB (An.stat j).1 (An.stat j).2 t = P at *
      generalize An.firstT (An.stat j).1 (An.stat j).2 = F at *
      generalize An.fieldsT (An.stat j).1 (t.length + 1) = FL at *
      generalize (An.stat j).1 = sn at *
      generalize (An.stat j).2 = sr at *
      go_enter Tryd.func9, Tryd.ntmps9
      go_wp2
      refine wp_scope_on 0 rfl ?_
      go_wp2_with (first
        | (go_at_call 8; (with_reducible refine Calls.mono hr.out ?_); rintro e w6 ⟨rfl, hb6⟩; have hb6' := Lib.hid hb6; clear hb6)
        | (go_at_call 27; (with_reducible refine Calls.mono (hp.out _ hb6'.out) ?_); rintro e w7 ⟨u, rfl, hu, hU, hb7⟩; have hU' := Lib.hid hU; have hb7' := Lib.hid (below_on hb6'.out hb7); clear hU hb7)
        | (go_at_call 28; (with_reducible refine Calls.mono (hb.out _ hb7'.out _ hU'.out) ?_); rintro e w8 ⟨v8, rfl, hv8, hb8⟩; obtain ⟨A8, m8, c8, e8, hv8o⟩ := hv8.opened; subst e8; have hv8' := Lib.hid hv8; have hb8' := Lib.hid (below_on hb7'.out hb8); clear hv8 hv8o hb8))
      rw [jump_ret]
      go_ret2
      exact ⟨⟨.slice A8 m8 c8, rfl, hv8'.out.mono hb7'.out.size⟩, hb8'.out⟩
    · rw [if_neg hl]
      have hli : (1000 : Int) < (t.length : Int) := by omega
      have hli2 : Hid (t.length ≤ 140737488355328) := Lib.hid ht
      clear hrs hl ht hT
      go_enter Tryd.func9, Tryd.ntmps9
      go_wp2
      refine wp_scope_on 0 rfl ?_
      go_wp2_with (go_at_call 8; (with_reducible refine Calls.mono hr.out ?_); rintro e w6 ⟨rfl, hb6⟩; have hb6' := Lib.hid hb6; clear hb6)
      go_step3
      refine ⟨rfl, ?_⟩
      go_wp2
      rw [Exit.noGoto_ret]
      go_ret2
      exact ⟨rfl, hb6'.out⟩
set_option maxRecDepth 100000 in
set_option maxHeartbeats 8000000 in
theorem refusal_any (s : Int) (w : World) (hT : TabN w) : Calls Tryd.prog 10 #[.int .i64 s] w (AnsR (An.refusalO s) w) := by
  have hr := Lib.hid (reason_any s w hT.2)
  unfold AnsR An.refusalO
  cases hrs : An.reason s with
  | none =>
    rw [hrs] at hr
    simp only at hr ⊢
    clear hrs
    go_enter Tryd.func10, Tryd.ntmps10
    go_wp2
    refine wp_scope_on 0 rfl ?_
    go_wp2_with (go_at_call 8; (with_reducible refine Calls.mono hr.out ?_); rintro e w6 ⟨rfl, hb6⟩; have hb6' := Lib.hid hb6; clear hb6)
    go_step3
    refine ⟨rfl, ?_⟩
    go_wp2
    rw [Exit.noGoto_ret]
    go_ret2
    exact ⟨rfl, hb6'.out⟩
  | some r =>
    rw [hrs] at hr
    simp only at hr ⊢
    by_cases h2 : s = 200
    · rw [if_pos h2]
      subst h2
      clear hrs
      go_enter Tryd.func10, Tryd.ntmps10
      go_wp2
      refine wp_scope_on 0 rfl ?_
      go_wp2_with (go_at_call 8; (with_reducible refine Calls.mono hr.out ?_); rintro e w6 ⟨rfl, hb6⟩; have hb6' := Lib.hid hb6; clear hb6)
      go_step3
      refine ⟨rfl, ?_⟩
      go_wp2
      rw [Exit.noGoto_ret]
      go_ret2
      exact ⟨rfl, hb6'.out⟩
    · rw [if_neg h2]
      obtain ⟨j, hj, hs, hr2⟩ := An.reason_some hrs
      subst hs hr2
      have hsv := An.stat_val hj
      have hdl := An.dec_len (x := (An.stat j).1) (by omega)
      have hll : (lowerL (An.stat j).2).length = (An.stat j).2.length := by simp [lowerL]
      have htl : (An.refusalT (An.stat j).1 (An.stat j).2).length ≤ 1000 := by unfold An.refusalT; simp; omega
      have hte : An.refusalT (An.stat j).1 (An.stat j).2 = An.dec (An.stat j).1 ++ [32] ++ lowerL (An.stat j).2 := rfl
      have hdg := Lib.hid (fun W (hW : Below w.heap.size w W) => digits_any (An.stat j).1 (by omega) W (hT.1.below hW))
      have hlw := Lib.hid (fun W => lower_any (An.stat j).2 W (by omega))
      have hwd := Lib.hid (fun k W h => words2_any (An.dec (An.stat j).1) (lowerL (An.stat j).2) k W h (by omega) (by omega))
      have hp := Lib.hid (fun W (hW : Below w.heap.size w W) => plain_any (An.stat j).1 (An.stat j).2 (An.refusalT (An.stat j).1 (An.stat j).2) W (hT.1.below hW) (by omega) (by omega) (by omega))
      have hb := Lib.hid (fun W (hW : Below w.heap.size w W) u hU => plainBytes_any j (An.refusalT (An.stat j).1 (An.stat j).2) W (hT.1.below hW) hj (by omega) u hU)
      rw [Int.toNat_natCast]
      unfold StrR at hdg hlw hwd
      rw [← hte] at hwd
      clear hrs hsv hT hll hdl htl hte
      generalize An.plainB (An.stat j).1 (An.stat j).2 (An.refusalT (An.stat j).1 (An.stat j).2) = P at *
      generalize An.refusalT (An.stat j).1 (An.stat j).2 = t at *
      generalize An.firstT (An.stat j).1 (An.stat j).2 = F at *
      generalize An.fieldsT (An.stat j).1 (t.length + 1) = FL at *
      generalize An.dec (An.stat j).1 = dg at *
      generalize lowerL (An.stat j).2 = lw at *
      generalize (An.stat j).1 = sn at *
      generalize (An.stat j).2 = sr at *
      have h2i : ¬ (sn : Int) = 200 := h2
      go_enter Tryd.func10, Tryd.ntmps10
      go_wp2
      refine wp_scope_on 0 rfl ?_
      go_wp2_with (first
        | (go_at_call 8; (with_reducible refine Calls.mono hr.out ?_); rintro e w3 ⟨rfl, hb3⟩; have hb3' := Lib.hid hb3; clear hb3)
        | (go_at_call 30; (with_reducible refine Calls.mono (hdg.out _ hb3'.out) ?_); rintro e w4 ⟨rfl, hb4⟩; have hb4' := Lib.hid (below_on hb3'.out hb4); clear hb4)
        | (go_at_call 31; (with_reducible refine Calls.mono (hlw.out _) ?_); rintro e w5 ⟨rfl, hb5⟩; have hb5' := Lib.hid ((below_on hb4'.out hb5).alloc (below_on hb4'.out hb5).size (.cells #[.string ⟨dg.toArray⟩, .string ⟨lw.toArray⟩] 9)); have hz5 := Lib.hid (Has.new w5 9 #[.string ⟨dg.toArray⟩, .string ⟨lw.toArray⟩]); clear hb5)
        | (go_at_call 29; (with_reducible refine Calls.mono (hwd.out _ _ hz5.out) ?_); rintro e w6 ⟨rfl, hb6⟩; have hb6' := Lib.hid (below_on hb5'.out hb6); clear hb6)
        | (go_at_call 27; (with_reducible refine Calls.mono (hp.out _ hb6'.out) ?_); rintro e w7 ⟨u, rfl, hu, hU, hb7⟩; have hU' := Lib.hid hU; have hb7' := Lib.hid (below_on hb6'.out hb7); clear hU hb7)
        | (go_at_call 28; (with_reducible refine Calls.mono (hb.out _ hb7'.out _ hU'.out) ?_); rintro e w8 ⟨v8, rfl, hv8, hb8⟩; obtain ⟨A8, m8, c8, e8, hv8o⟩ := hv8.opened; subst e8; have hv8' := Lib.hid hv8; have hb8' := Lib.hid (below_on hb7'.out hb8); clear hv8 hv8o hb8))
      rw [jump_ret]
      go_ret2
      exact ⟨⟨.slice A8 m8 c8, rfl, hv8'.out.mono hb7'.out.size⟩, hb8'.out⟩
theorem plainO_drain : An.plainO 503 An.drainL = some (An.plainB 503 An.rs503 An.drainL) := by
  unfold An.plainO
  rw [show An.reason 503 = some An.rs503 from An.reason_at (j := 6) (by omega)]
  simp only
  rw [if_pos (by decide)]
  rfl
theorem plainO_ok {t : List UInt8} (h : t.length ≤ 1000) : An.plainO 200 t = some (An.plainB 200 An.rs200 t) := by
  unfold An.plainO
  rw [show An.reason 200 = some An.rs200 from An.reason_at (j := 0) (by omega)]
  simp only
  rw [if_pos h]
  rfl
set_option maxRecDepth 100000 in
set_option maxHeartbeats 8000000 in
theorem health_any (a b : Int) (d : Bool) (w : World) (hT : TabN w) (ha : a ≤ 9223372036854775807) (hb : b ≤ 9223372036854775807) : Calls Tryd.prog 15 #[.int .i64 a, .int .i64 b, .bool d] w (AnsR (An.healthO a b d) w) := by
  unfold An.healthO
  by_cases h : a < 0 ∨ b < 0
  · rw [if_pos h]
    unfold AnsR
    simp only
    by_cases ha0 : a < 0
    · clear hT
      go_enter Tryd.func15, Tryd.ntmps15
      go_wp2
      refine wp_scope_on 0 rfl ?_
      go_wp2
      go_step3
      refine ⟨rfl, ?_⟩
      go_wp2
      rw [Exit.noGoto_ret]
      go_ret2
      exact ⟨rfl, Below.refl _ _⟩
    · have hb0 : b < 0 := by omega
      clear hT h
      go_enter Tryd.func15, Tryd.ntmps15
      go_wp2
      refine wp_scope_on 0 rfl ?_
      go_wp2
      go_step3
      refine ⟨rfl, ?_⟩
      go_wp2
      rw [Exit.noGoto_ret]
      go_ret2
      exact ⟨rfl, Below.refl _ _⟩
  · rw [if_neg h]
    have ha0 : ¬ a < 0 := by omega
    have hb0 : ¬ b < 0 := by omega
    cases d with
    | true =>
      rw [if_pos rfl]
      have hp := plainF_any 503 An.drainL w hT (by decide)
      rw [plainO_drain] at hp
      unfold AnsR at hp ⊢
      simp only at hp ⊢
      have hp' := Lib.hid (show Calls Tryd.prog 9 #[.int .i64 503, .string ⟨#[100, 114, 97, 105, 110, 105, 110, 103]⟩] w _ from hp)
      generalize An.plainB 503 An.rs503 An.drainL = P at *
      clear hp hT h
      go_enter Tryd.func15, Tryd.ntmps15
      go_wp2
      refine wp_scope_on 0 rfl ?_
      go_wp2_with (go_at_call 9; (with_reducible refine Calls.mono hp'.out ?_); rintro e w8 ⟨⟨v8, rfl, hv8⟩, hb8⟩; obtain ⟨A8, m8, c8, e8, hv8o⟩ := hv8.opened; subst e8; have hv8' := Lib.hid hv8; have hb8' := Lib.hid hb8; clear hv8 hv8o hb8)
      rw [jump_ret]
      go_ret2
      exact ⟨⟨.slice A8 m8 c8, rfl, hv8'.out⟩, hb8'.out⟩
    | false =>
      rw [if_neg (by simp)]
      obtain ⟨x, rfl⟩ := Int.eq_ofNat_of_zero_le (show 0 ≤ a by omega)
      obtain ⟨y, rfl⟩ := Int.eq_ofNat_of_zero_le (show 0 ≤ b by omega)
      rw [Int.toNat_natCast, Int.toNat_natCast]
      have hxl := An.dec_len (x := x) (by omega)
      have hyl := An.dec_len (x := y) (by omega)
      have htl : (An.healthT x y).length ≤ 1000 := by unfold An.healthT An.okL; simp; omega
      have hdx := Lib.hid (fun W (hW : Below w.heap.size w W) => digits_any x (by omega) W (hT.1.below hW))
      have hdy := Lib.hid (fun W (hW : Below w.heap.size w W) => digits_any y (by omega) W (hT.1.below hW))
      have hwd := Lib.hid (fun k W h => words3_any An.okL (An.dec x) (An.dec y) k W h (by decide) (by omega) (by omega))
      have hp := fun W (hW : Below w.heap.size w W) => plainF_any 200 (An.healthT x y) W (hT.below hW) (by omega)
      rw [plainO_ok htl] at hp
      unfold StrR at hdx hdy hwd
      rw [show An.okL ++ [32] ++ An.dec x ++ [32] ++ An.dec y = An.healthT x y from rfl] at hwd
      unfold AnsR at hp ⊢
      simp only at hp ⊢
      have hp' := Lib.hid hp
      generalize An.plainB 200 An.rs200 (An.healthT x y) = P at *
      generalize An.healthT x y = t at *
      generalize An.dec x = dx at *
      generalize An.dec y = dy at *
      clear hp hT h hxl hyl htl
      go_enter Tryd.func15, Tryd.ntmps15
      go_wp2
      refine wp_scope_on 0 rfl ?_
      go_wp2_with (first
        | (go_at_call 30; (with_reducible refine Calls.mono (hdx.out _ (Below.refl _ _)) ?_); rintro e w4 ⟨rfl, hb4⟩; have hb4' := Lib.hid hb4; clear hb4)
        | (go_at_call 30; (with_reducible refine Calls.mono (hdy.out _ hb4'.out) ?_); rintro e w5 ⟨rfl, hb5⟩; have hb5' := Lib.hid ((below_on hb4'.out hb5).alloc (below_on hb4'.out hb5).size (.cells #[.string ⟨#[111, 107]⟩, .string ⟨dx.toArray⟩, .string ⟨dy.toArray⟩] 9)); have hz5 := Lib.hid (show Has _ _ 9 #[.string ⟨An.okL.toArray⟩, .string ⟨dx.toArray⟩, .string ⟨dy.toArray⟩] from Has.new w5 9 #[.string ⟨#[111, 107]⟩, .string ⟨dx.toArray⟩, .string ⟨dy.toArray⟩]); clear hb5)
        | (go_at_call 29; (with_reducible refine Calls.mono (hwd.out _ _ hz5.out) ?_); rintro e w6 ⟨rfl, hb6⟩; have hb6' := Lib.hid (below_on hb5'.out hb6); clear hb6)
        | (go_at_call 9; (with_reducible refine Calls.mono (hp'.out _ hb6'.out) ?_); rintro e w8 ⟨⟨v8, rfl, hv8⟩, hb8⟩; obtain ⟨A8, m8, c8, e8, hv8o⟩ := hv8.opened; subst e8; have hv8' := Lib.hid hv8; have hb8' := Lib.hid (below_on hb6'.out hb8); clear hv8 hv8o hb8))
      rw [jump_ret]
      go_ret2
      exact ⟨⟨.slice A8 m8 c8, rfl, hv8'.out.mono hb6'.out.size⟩, hb8'.out⟩
end Go.Proofs.YtabgpnieekcdhaaDoor
