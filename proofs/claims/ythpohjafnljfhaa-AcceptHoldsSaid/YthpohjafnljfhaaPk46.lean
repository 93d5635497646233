import Derived.Test.YthpohjafnljfhaaPk45
namespace Go.Proofs.Ythpohjafnljfhaa
open Go.RowKit Lib
attribute [local go_sem] Oper.semAt_some run_frombits run_quo_at
set_option maxRecDepth 100000 in
set_option maxHeartbeats 16000000 in
theorem holdsA_some (hP : AcProg) (s : List UInt8) (n m k : Int) (w : World) (hs : s.length ≤ 200) (hT : TabA w) (hn : n.toNat < 2 ^ 64) (hm : m.toNat < 2 ^ 64) (l : List Ac.Rg) (hl : Ac.list s = some l) :
    Calls Try.prog 4 #[.string ⟨s.toArray⟩, .int .u64 n, .int .u64 m, .int .i64 k] w (BoolR true w) := by
  unfold BoolR
  have hT' := Lib.hid hT
  have wx := Lib.hid (fun W hW => hP.weigh n.toNat W hW hn)
  have wy := Lib.hid (fun W hW => hP.weigh m.toNat W hW hm)
  have hwk := Lib.hid (fun W hW => worksA_any hP W hW)
  unfold BoolR at hwk
  have ha1 := weighF_le n.toNat
  have hfl := fl_cases n.toNat m.toNat
  have hkc := kc k
  have hsI : ¬ (200 : Int) < (s.length : Int) := by omega
  have hp := Lib.hid (fun W hW => hP.parse s W hW (by omega))
  have hp2 := Lib.hid (fun W hW => hP.parse (s ++ Ac.more) W hW (by rw [List.length_append]; have : Ac.more.length = 10 := rfl; omega))
  rw [← app_str, Ac.list_more hl, show Ac.more.toArray = #[44, 42, 47, 42, 59, 113, 61, 48, 46, 49] from rfl] at hp2
  rw [hl] at hp
  obtain ⟨hl1, hl2⟩ := Ac.list_few hl
  have hl2' := Lib.hid hl2
  have hlI : (l.length : Int) ≤ 201 := by omega
  unfold RgsR orA errA at hp hp2
  simp only [Option.getD_some, Option.isSome_some, if_true] at hp hp2
  have hlen : (l ++ [(⟨[42], [42], 0, 100⟩ : Ac.Rg)]).length = l.length + 1 := by simp
  rw [hlen] at hp2
  have hsn : ¬ 9223372036854775807 < s.length + 10 := by omega
  have hln : (((l.length + 1 : Nat) : Int) != (l.length : Int) + 1) = false := by simp
  clear hl hT hn hm hl2
  go_enter Try.func4, Try.ntmps4
  go_upto_region 4 with (go_at_call 9; (with_reducible refine Calls.mono (hp.out _ hT'.out) ?_); rintro e w1 ⟨⟨A, c, rfl, hr⟩, hb⟩; have hBa := Lib.hid hb; have hTa := Lib.hid (hT'.out.below hb); have hr1 := Lib.hid hr; clear hb hr)
  clear hp hT'
  go_wp2
  go_loopw [11] (fun x W => ∃ i : Nat, i ≤ l.length ∧ x = .int .i64 (i : Int) ∧ W = w1) (fun x _ => l.length - (intOf x).toNat)
  case atStart => exact ⟨0, Nat.zero_le _, rfl, rfl⟩
  case round =>
    obtain ⟨i, hi, rfl, rfl⟩ := hrel
    by_cases hlt : i < l.length
    · have hltI : (i : Int) < (l.length : Int) := by omega
      obtain ⟨b, o, hA, _, hc⟩ := hr1.out (by omega)
      subst hA
      obtain ⟨_, _, _, m4⟩ := hc i _ (List.getElem?_eq_getElem hlt)
      have hq := (hl2'.out _ (List.getElem_mem hlt)).2.2.2
      generalize (l[i]).quality = q at *
      have q0 : ¬ (q : Int) < 0 := by omega
      have q1 : ¬ (1000 : Int) < (q : Int) := by omega
      clear hc hkc hfl
      go_wp2
      exact ⟨⟨i + 1, by omega, by go_num, trivial⟩, by simp [intOf]; omega⟩
    · obtain rfl : i = l.length := by omega
      go_upto_region 11 with (first
        | (go_at_call 10; (with_reducible refine Calls.mono (numA_any _ _) ?_); rintro e w9 ⟨rfl, hw9⟩; obtain rfl := hw9.symm)
        | (go_at_call 9; (with_reducible refine Calls.mono (hp2.out _ hTa.out) ?_); rintro e w2 ⟨⟨A2, c2, rfl, hr⟩, hb⟩; have hB2 := Lib.hid (below_on hBa.out hb); have hT2 := Lib.hid (hTa.out.below hb); have hr2 := Lib.hid hr; have hr3 := Lib.hid (hr1.out.below hb); clear hb hr))
      clear hp2 hr1 hBa hTa hi hlt
      go_upto_region 14 with (go_at_call 10; (with_reducible refine Calls.mono (numA_any _ _) ?_); rintro e w9 ⟨rfl, hw9⟩; obtain rfl := hw9.symm)
      go_loopw [14] (fun x W => ∃ i : Nat, i ≤ l.length ∧ x = .int .i64 (i : Int) ∧ ∃ q, W = w2.drewN q) (fun x _ => l.length - (intOf x).toNat)
      case atStart => exact ⟨0, Nat.zero_le _, rfl, 0, rfl⟩
      case round =>
        obtain ⟨i, hi, rfl, qn, rfl⟩ := hrel
        by_cases hlt : i < l.length
        · have hltI : (i : Int) < (l.length : Int) := by omega
          have hltJ : (i : Int) < (l.length : Int) + 1 := by omega
          have hltK : (i : Int) < ((l.length + 1 : Nat) : Int) := by omega
          obtain ⟨b, o, hA, _, hc⟩ := hr3.out (by omega)
          subst hA
          obtain ⟨b', o', hA, _, hc'⟩ := hr2.out (by simp)
          subst hA
          obtain ⟨j1, j2, j3, j4⟩ := hc i _ (List.getElem?_eq_getElem hlt)
          obtain ⟨j5, j6, j7, j8⟩ := hc' i (l[i]) (by rw [List.getElem?_append_left hlt, List.getElem?_eq_getElem hlt])
          obtain ⟨f1, f2, f3, f4⟩ := hl2'.out _ (List.getElem_mem hlt)
          generalize l[i] = r at *
          have heq := fun W => rg_equal r (by omega) (by omega) (by omega) (by omega) W
          obtain ⟨ty, sub, pa, qu⟩ := r
          simp only at *
          have m1 : ∀ m, (w2.drewN m).cell? ⟨b, o + i * 4, none⟩ = some (.string ⟨ty.toArray⟩) := fun m => j1
          have m2 : ∀ m, (w2.drewN m).cell? ⟨b, o + i * 4 + 1, none⟩ = some (.string ⟨sub.toArray⟩) := fun m => j2
          have m3 : ∀ m, (w2.drewN m).cell? ⟨b, o + i * 4 + 2, none⟩ = some (.int .i64 (pa : Int)) := fun m => j3
          have m4 : ∀ m, (w2.drewN m).cell? ⟨b, o + i * 4 + 3, none⟩ = some (.int .i64 (qu : Int)) := fun m => j4
          have m5 : ∀ m, (w2.drewN m).cell? ⟨b', o' + i * 4, none⟩ = some (.string ⟨ty.toArray⟩) := fun m => j5
          have m6 : ∀ m, (w2.drewN m).cell? ⟨b', o' + i * 4 + 1, none⟩ = some (.string ⟨sub.toArray⟩) := fun m => j6
          have m7 : ∀ m, (w2.drewN m).cell? ⟨b', o' + i * 4 + 2, none⟩ = some (.int .i64 (pa : Int)) := fun m => j7
          have m8 : ∀ m, (w2.drewN m).cell? ⟨b', o' + i * 4 + 3, none⟩ = some (.int .i64 (qu : Int)) := fun m => j8
          clear hc hc' j1 j2 j3 j4 j5 j6 j7 j8 f1 f2 f3 f4 hkc hfl
          go_wp2
          go_quiet (fail)
          go_wp2
          exact ⟨⟨i + 1, by omega, by go_num, _, rfl⟩, by simp [intOf]; omega⟩
        · obtain rfl : i = l.length := by omega
          have hBa := Lib.hid (below_draws hB2.out qn)
          have hTa : Hid (TabA (w2.drewN qn)) := Lib.hid (hT2.out.below (below_draws (Below.refl w2.heap.size w2) qn))
          clear hB2 hT2 hr2 hr3
          generalize w2.drewN qn = w3 at *
          clear hi hlt hl1 hl2' hln hsn
          rcases hfl with ⟨e1, e2, e3⟩ | ⟨e2, h⟩
          · rw [e3] at wx ha1
            clear e3
            generalize weighF m.toNat = b at *
            rcases hkc with hk | hk | ⟨j, rfl, hj⟩
            · go_wp2_with (first
                | (go_at_call 6; (with_reducible refine Calls.mono (wx.out _ hTa.out) ?_); rintro e u1 ⟨rfl, hb⟩; have hBb := Lib.hid (below_on hBa.out hb); have hTb := Lib.hid (hTa.out.below hb); clear hb)
                | (go_at_call 6; (with_reducible refine Calls.mono (wy.out _ hTb.out) ?_); rintro e u2 ⟨rfl, hb⟩; have hBc := Lib.hid (below_on hBb.out hb); have hTc := Lib.hid (hTb.out.below hb); clear hb)
                | (go_at_call 6; (with_reducible refine Calls.mono (wz.out _ hTc.out) ?_); rintro e u3 ⟨rfl, hb⟩; have hBd := Lib.hid (below_on hBc.out hb); have hTd := Lib.hid (hTc.out.below hb); clear hb)
                | (go_at_call 8; (with_reducible refine Calls.mono (hwk.out _ hTd.out) ?_); rintro e u4 ⟨rfl, hb⟩; have hBe := Lib.hid (below_on hBd.out hb); clear hb)
                | (go_at_call 8; (with_reducible refine Calls.mono (hwk.out _ hTc.out) ?_); rintro e u4 ⟨rfl, hb⟩; have hBe := Lib.hid (below_on hBc.out hb); clear hb))
              go_ret
              exact ⟨rfl, hBe.out⟩
            · have hk0 : ¬ k < 0 := by omega
              go_wp2_with (first
                | (go_at_call 6; (with_reducible refine Calls.mono (wx.out _ hTa.out) ?_); rintro e u1 ⟨rfl, hb⟩; have hBb := Lib.hid (below_on hBa.out hb); have hTb := Lib.hid (hTa.out.below hb); clear hb)
                | (go_at_call 6; (with_reducible refine Calls.mono (wy.out _ hTb.out) ?_); rintro e u2 ⟨rfl, hb⟩; have hBc := Lib.hid (below_on hBb.out hb); have hTc := Lib.hid (hTb.out.below hb); clear hb)
                | (go_at_call 6; (with_reducible refine Calls.mono (wz.out _ hTc.out) ?_); rintro e u3 ⟨rfl, hb⟩; have hBd := Lib.hid (below_on hBc.out hb); have hTd := Lib.hid (hTc.out.below hb); clear hb)
                | (go_at_call 8; (with_reducible refine Calls.mono (hwk.out _ hTd.out) ?_); rintro e u4 ⟨rfl, hb⟩; have hBe := Lib.hid (below_on hBd.out hb); clear hb)
                | (go_at_call 8; (with_reducible refine Calls.mono (hwk.out _ hTc.out) ?_); rintro e u4 ⟨rfl, hb⟩; have hBe := Lib.hid (below_on hBc.out hb); clear hb))
              go_ret
              exact ⟨rfl, hBe.out⟩
            · have wz := Lib.hid (fun W hW => hP.weigh (wt j) W hW (wt_lt hj))
              rw [weighF_at hj] at wz
              have hk0 : ¬ (j : Int) < 0 := by omega
              have hk1 : ¬ (1000 : Int) < (j : Int) := by omega
              go_wp2_with (first
                | (go_at_call 6; (with_reducible refine Calls.mono (wx.out _ hTa.out) ?_); rintro e u1 ⟨rfl, hb⟩; have hBb := Lib.hid (below_on hBa.out hb); have hTb := Lib.hid (hTa.out.below hb); clear hb)
                | (go_at_call 6; (with_reducible refine Calls.mono (wy.out _ hTb.out) ?_); rintro e u2 ⟨rfl, hb⟩; have hBc := Lib.hid (below_on hBb.out hb); have hTc := Lib.hid (hTb.out.below hb); clear hb)
                | (go_at_call 6; (with_reducible refine Calls.mono (wz.out _ hTc.out) ?_); rintro e u3 ⟨rfl, hb⟩; have hBd := Lib.hid (below_on hBc.out hb); have hTd := Lib.hid (hTc.out.below hb); clear hb)
                | (go_at_call 8; (with_reducible refine Calls.mono (hwk.out _ hTd.out) ?_); rintro e u4 ⟨rfl, hb⟩; have hBe := Lib.hid (below_on hBd.out hb); clear hb)
                | (go_at_call 8; (with_reducible refine Calls.mono (hwk.out _ hTc.out) ?_); rintro e u4 ⟨rfl, hb⟩; have hBe := Lib.hid (below_on hBc.out hb); clear hb))
              go_ret
              exact ⟨rfl, hBe.out⟩
          · have hle : Hid (FloatKind.f64.format.order n.toNat m.toNat = none ∨ FloatKind.f64.format.order n.toNat m.toNat = some .gt ∨ (FloatKind.f64.format.order n.toNat m.toNat = some .lt ∧ weighF n.toNat ≤ weighF m.toNat) ∨ (FloatKind.f64.format.order n.toNat m.toNat = some .eq ∧ weighF n.toNat ≤ weighF m.toNat)) := Lib.hid h
            clear h
            generalize weighF n.toNat = a at *
            generalize weighF m.toNat = b at *
            have aI0 : ¬ (a : Int) < 0 := by omega
            have aI1 : ¬ (1000 : Int) < (a : Int) := by omega
            rcases hle.out with e1 | e1 | ⟨e1, h⟩ | ⟨e1, h⟩
            all_goals
              clear hle
              try (have abI : ¬ (b : Int) < (a : Int) := by omega)
              try clear h
              rcases hkc with hk | hk | ⟨j, rfl, hj⟩
              · go_wp2_with (first
                  | (go_at_call 6; (with_reducible refine Calls.mono (wx.out _ hTa.out) ?_); rintro e u1 ⟨rfl, hb⟩; have hBb := Lib.hid (below_on hBa.out hb); have hTb := Lib.hid (hTa.out.below hb); clear hb)
                  | (go_at_call 6; (with_reducible refine Calls.mono (wy.out _ hTb.out) ?_); rintro e u2 ⟨rfl, hb⟩; have hBc := Lib.hid (below_on hBb.out hb); have hTc := Lib.hid (hTb.out.below hb); clear hb)
                  | (go_at_call 6; (with_reducible refine Calls.mono (wz.out _ hTc.out) ?_); rintro e u3 ⟨rfl, hb⟩; have hBd := Lib.hid (below_on hBc.out hb); have hTd := Lib.hid (hTc.out.below hb); clear hb)
                  | (go_at_call 8; (with_reducible refine Calls.mono (hwk.out _ hTd.out) ?_); rintro e u4 ⟨rfl, hb⟩; have hBe := Lib.hid (below_on hBd.out hb); clear hb)
                  | (go_at_call 8; (with_reducible refine Calls.mono (hwk.out _ hTc.out) ?_); rintro e u4 ⟨rfl, hb⟩; have hBe := Lib.hid (below_on hBc.out hb); clear hb))
                go_ret
                exact ⟨rfl, hBe.out⟩
              · have hk0 : ¬ k < 0 := by omega
                go_wp2_with (first
                  | (go_at_call 6; (with_reducible refine Calls.mono (wx.out _ hTa.out) ?_); rintro e u1 ⟨rfl, hb⟩; have hBb := Lib.hid (below_on hBa.out hb); have hTb := Lib.hid (hTa.out.below hb); clear hb)
                  | (go_at_call 6; (with_reducible refine Calls.mono (wy.out _ hTb.out) ?_); rintro e u2 ⟨rfl, hb⟩; have hBc := Lib.hid (below_on hBb.out hb); have hTc := Lib.hid (hTb.out.below hb); clear hb)
                  | (go_at_call 6; (with_reducible refine Calls.mono (wz.out _ hTc.out) ?_); rintro e u3 ⟨rfl, hb⟩; have hBd := Lib.hid (below_on hBc.out hb); have hTd := Lib.hid (hTc.out.below hb); clear hb)
                  | (go_at_call 8; (with_reducible refine Calls.mono (hwk.out _ hTd.out) ?_); rintro e u4 ⟨rfl, hb⟩; have hBe := Lib.hid (below_on hBd.out hb); clear hb)
                  | (go_at_call 8; (with_reducible refine Calls.mono (hwk.out _ hTc.out) ?_); rintro e u4 ⟨rfl, hb⟩; have hBe := Lib.hid (below_on hBc.out hb); clear hb))
                go_ret
                exact ⟨rfl, hBe.out⟩
              · have wz := Lib.hid (fun W hW => hP.weigh (wt j) W hW (wt_lt hj))
                rw [weighF_at hj] at wz
                have hk0 : ¬ (j : Int) < 0 := by omega
                have hk1 : ¬ (1000 : Int) < (j : Int) := by omega
                go_wp2_with (first
                  | (go_at_call 6; (with_reducible refine Calls.mono (wx.out _ hTa.out) ?_); rintro e u1 ⟨rfl, hb⟩; have hBb := Lib.hid (below_on hBa.out hb); have hTb := Lib.hid (hTa.out.below hb); clear hb)
                  | (go_at_call 6; (with_reducible refine Calls.mono (wy.out _ hTb.out) ?_); rintro e u2 ⟨rfl, hb⟩; have hBc := Lib.hid (below_on hBb.out hb); have hTc := Lib.hid (hTb.out.below hb); clear hb)
                  | (go_at_call 6; (with_reducible refine Calls.mono (wz.out _ hTc.out) ?_); rintro e u3 ⟨rfl, hb⟩; have hBd := Lib.hid (below_on hBc.out hb); have hTd := Lib.hid (hTc.out.below hb); clear hb)
                  | (go_at_call 8; (with_reducible refine Calls.mono (hwk.out _ hTd.out) ?_); rintro e u4 ⟨rfl, hb⟩; have hBe := Lib.hid (below_on hBd.out hb); clear hb)
                  | (go_at_call 8; (with_reducible refine Calls.mono (hwk.out _ hTc.out) ?_); rintro e u4 ⟨rfl, hb⟩; have hBe := Lib.hid (below_on hBc.out hb); clear hb))
                go_ret
                exact ⟨rfl, hBe.out⟩
end Go.Proofs.Ythpohjafnljfhaa
