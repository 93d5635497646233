import Derived.Test.YthpohjafnljfhaaPk8
import Derived.Test.YthpohjafnljfhaaPk39
namespace Go.Proofs.Ythpohjafnljfhaa
open Go.RowKit Go.Shelf
attribute [local go_sem] Oper.semAt_some

/-! ## The quality of a type -/
theorem allA_len {α β : Type} {f : α → Option β} : ∀ {l : List α} {m : List β}, Ac.allO f l = some m → m.length = l.length
  | [], m, h => by
    injection h with h
    subst h; rfl
  | x :: l, m, h => by
    unfold Ac.allO at h
    split at h
    · rename_i a b h1 h2
      injection h with h
      subst h
      simp [allA_len h2]
    · cases h
theorem list_len {s : List UInt8} {l : List Ac.Rg} (h : Ac.list s = some l) : l.length ≤ s.length + 1 := by
  unfold Ac.list at h
  split at h
  · rw [allA_len h]; exact Ac.items_many s
  · cases h
set_option maxRecDepth 100000 in
set_option maxHeartbeats 4000000 in
theorem qualA_any (s k u : List UInt8) (w : World) (hT : TabA w) (hs : s.length ≤ 500000) (hk : k ≠ [42]) (hu : u ≠ [42]) :
    Calls Try.prog 13 #[.string ⟨s.toArray⟩, .string ⟨k.toArray⟩, .string ⟨u.toArray⟩] w fun e w' => e = .returned (.tuple #[.int .i64 (((Ac.quality s k u).getD 0 : Nat) : Int), .int .i64 (errA (Ac.quality s k u))]) ∧ Below w.heap.size w w' := by
  obtain ⟨n, hn⟩ : ∃ n, w.heap.size = n := ⟨_, rfl⟩
  obtain ⟨wa, hwa⟩ : ∃ wa, w.alloc (.cells #[.string ⟨k.toArray⟩] 9) = wa := ⟨_, rfl⟩
  have za0 : Has wa n 9 #[.string ⟨k.toArray⟩] := by rw [← hwa, ← hn]; exact Has.new _ _ _
  have hza : wa.heap.size = n + 1 := by rw [← hwa, World.size_alloc, hn]
  obtain ⟨wb, hwb⟩ : ∃ wb, wa.alloc (.cells #[.string ⟨u.toArray⟩] 9) = wb := ⟨_, rfl⟩
  have zb1 : Has wb (n + 1) 9 #[.string ⟨u.toArray⟩] := by rw [← hwb, ← hza]; exact Has.new _ _ _
  have zb0 : Has wb n 9 #[.string ⟨k.toArray⟩] := by rw [← hwb]; exact za0.alloc _
  have hBb : Below w.heap.size w wb := by
    rw [← hwb, ← hwa]
    exact ((Below.refl _ _).alloc (Nat.le_refl _) _).alloc (by simp) _
  have hp := parseA_any s wb (hT.below hBb) hs
  obtain ⟨o, ho⟩ : ∃ o, Ac.list s = o := ⟨_, rfl⟩
  rw [ho] at hp
  unfold RgsR at hp
  have hBb' := Lib.hid hBb
  have zb0' := Lib.hid zb0
  have zb1' := Lib.hid zb1
  clear hBb zb0 zb1 za0 hT
  cases o with
  | none =>
    have hq := Lib.hid (show Ac.quality s k u = none by unfold Ac.quality; rw [ho]; rfl)
    have hp' := Lib.hid hp
    unfold errA orA at hp'
    simp only [Option.isSome_none, Option.getD_none, List.length_nil, Bool.false_eq_true, if_false] at hp'
    clear hp ho
    go_enter Try.func13, Try.ntmps13
    go_wp2_with (go_at_call 9; (with_reducible refine Calls.mono hp'.out ?_); rintro e w3 ⟨⟨A3, c3, rfl, -⟩, hb3⟩; have hb3' := Lib.hid hb3; clear hb3)
    go_ret2
    refine ⟨by rw [hq.out]; rfl, ?_⟩
    first
    | exact hBb'.out.trans (hb3'.out.mono hBb'.out.size)
    | (rw [← hn]; exact hBb'.out.trans (hb3'.out.mono hBb'.out.size))
  | some l =>
    have hll := list_len ho
    unfold errA orA at hp
    simp only [Option.isSome_some, Option.getD_some, if_true] at hp
    by_cases hl0 : l = []
    · subst hl0
      have hq := Lib.hid (show Ac.quality s k u = some 1000 by unfold Ac.quality; rw [ho]; rfl)
      have hp' := Lib.hid hp
      simp only [List.length_nil] at hp'
      clear hp ho
      go_enter Try.func13, Try.ntmps13
      go_wp2_with (go_at_call 9; (with_reducible refine Calls.mono hp'.out ?_); rintro e w3 ⟨⟨A3, c3, rfl, -⟩, hb3⟩; have hb3' := Lib.hid hb3; clear hb3)
      go_ret2
      refine ⟨by rw [hq.out]; rfl, ?_⟩
      first
      | exact hBb'.out.trans (hb3'.out.mono hBb'.out.size)
      | (rw [← hn]; exact hBb'.out.trans (hb3'.out.mono hBb'.out.size))
    · have hq := Lib.hid (show Ac.quality s k u = some (bestR (fun r => fitP r k u) 0 rg0 l).quality by
        unfold Ac.quality
        rw [ho]
        show some (if l = [] then 1000 else Ac.best k u 0 0 l) = _
        rw [if_neg hl0, ← best_eq hk hu l 0 rg0]
        rfl)
      have hlp : 0 < l.length := List.length_pos_iff.2 hl0
      have hne : ((l.length : Int) == 0) = false := by rw [beq_eq_false_iff_ne]; omega
      have hne2 : ¬ l.length = 0 := by omega
      have hlm : l.length ≤ 1000000 := by omega
      have hbe := Lib.hid (fun A c W hk0 hu0 hR => best_any k u n (n + 1) A c l W hk0 hu0 hlm hR)
      unfold rgV rgC at hbe
      have hfd : ∀ (a b c d : Value) (W : World), (Instr.field 33 (.agg #[a, b, c, d]) 3).run Try.prog W = .ok d W := fun _ _ _ _ _ => by kernel_rfl
      have hp' := Lib.hid hp
      clear hp ho hl0
      generalize bestR (fun r => fitP r k u) 0 rg0 l = q at *
      go_enter Try.func13, Try.ntmps13
      go_wp2_with (first
        | (go_at_call 9; (with_reducible refine Calls.mono hp'.out ?_); rintro e w3 ⟨⟨A3, c3, rfl, hR⟩, hb3⟩; have hb3' := Lib.hid hb3; have hR' := Lib.hid hR; have kk := Lib.hid (zb0'.out.below hb3 zb0'.out.lt); have ku := Lib.hid (zb1'.out.below hb3 zb1'.out.lt); clear hb3 hR)
        | (go_at_call 22; (with_reducible refine Calls.mono (hbe.out _ _ _ kk.out ku.out hR'.out) ?_); rintro e w4 ⟨rfl, hb4⟩; have hb4' := Lib.hid (below_on hb3'.out hb4); clear hb4))
      go_ret2
      refine ⟨by rw [hq.out]; rfl, ?_⟩
      first
      | exact hBb'.out.trans (hb4'.out.mono hBb'.out.size)
      | (rw [← hn]; exact hBb'.out.trans (hb4'.out.mono hBb'.out.size))
set_option maxRecDepth 100000 in
theorem takesA_any (s k u : List UInt8) (w : World) (hT : TabA w) (hs : s.length ≤ 500000) (hk : k ≠ [42]) (hu : u ≠ [42]) :
    Calls Try.prog 14 #[.string ⟨s.toArray⟩, .string ⟨k.toArray⟩, .string ⟨u.toArray⟩] w fun e w' => e = .returned (.bool (decide (0 < (Ac.quality s k u).getD 0))) ∧ Below w.heap.size w w' := by
  have h1 := qualA_any s k u w hT hs hk hu
  obtain ⟨o, ho⟩ : ∃ o, Ac.quality s k u = o := ⟨_, rfl⟩
  rw [ho] at h1 ⊢
  clear ho hT
  cases o with
  | none =>
    unfold errA at h1
    simp only [Option.isSome_none, Option.getD_none, Bool.false_eq_true, if_false] at h1
    have h1' := Lib.hid h1
    clear h1
    go_enter Try.func14, Try.ntmps14
    go_wp2_with (go_at_call 13; (with_reducible refine Calls.mono h1'.out ?_); rintro e w1 ⟨rfl, hb1⟩; have hb1' := Lib.hid hb1; clear hb1)
    go_ret
    exact ⟨rfl, hb1'.out⟩
  | some q =>
    unfold errA at h1
    simp only [Option.isSome_some, Option.getD_some, if_true] at h1 ⊢
    have h1' := Lib.hid h1
    clear h1
    have hb : decide (0 < q) = decide ((0 : Int) < (q : Int)) := by rw [decide_eq_decide]; omega
    rw [hb]
    go_enter Try.func14, Try.ntmps14
    go_wp2_with (go_at_call 13; (with_reducible refine Calls.mono h1'.out ?_); rintro e w1 ⟨rfl, hb1⟩; have hb1' := Lib.hid hb1; clear hb1)
    go_ret
    exact ⟨rfl, hb1'.out⟩
end Go.Proofs.Ythpohjafnljfhaa
