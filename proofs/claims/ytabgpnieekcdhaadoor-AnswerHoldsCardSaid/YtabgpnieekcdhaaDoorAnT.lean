import Derived.Test.YtabgpnieekcdhaaDoorAnR
namespace Go.Proofs.YtabgpnieekcdhaaDoor
open Go.RowKit Go.Shelf
attribute [local go_sem] Oper.semAt_some

/-! ## A field's line ends -/
set_option maxRecDepth 100000 in
set_option maxHeartbeats 8000000 in
theorem ends_field (f : ByteArray) (a z : List UInt8) (fs : List PairL) (A : Option Addr) (c p : Nat) (n cl cb cf : Int) (w : World) (hf : f.toList.isEmpty = false) (h58 : 58 ∉ a) (ht : tokenL a = true) (hpl : a.length = p) (hal : a.length + z.length ≤ 8999) (hcf : (fs.length : Int) < cf) (hfs : fs.length ≤ 300) (hA : A = none → c = 0) (hp : Prs w A fs) (lb : ByteArray) (hlb : ⟨(a ++ 58 :: z).toArray⟩ = lb) :
    Calls Tryd.prog 52 #[.agg (rdX cl cb cf f (.slice A fs.length c) ⟨(a ++ 58 :: z).toArray⟩ (n) true false 0)] w fun e w' => ∃ v', e = .returned (.agg (rdX cl cb cf f v' ⟨#[]⟩ (n) false false 0)) ∧ HdsO w' w.heap.size v' (fs ++ [(lowerL a, trimL z)]) ∧ Below w.heap.size w w' := by
  have hls : lb.size = p + 1 + z.length := by rw [← hlb]; show (a ++ 58 :: z).toArray.size = _; simp; omega
  have hln : lb.toList.isEmpty = false := by rw [← hlb]; cases a <;> simp
  have hbi : Hid (∀ (i : Nat) (hz : i < lb.size) (h : i < p), ((((lb[i]'hz).toNat : Int)) == 58) = false) := Lib.hid (fun i hz h => by
    subst hlb
    have hi : i < a.length := by omega
    rw [byE, beq_eq_false_iff_ne]
    intro e
    refine h58 ?_
    have h1 : (a ++ 58 :: z)[i]'(by simp; omega) = a[i] := List.getElem_append_left hi
    have h2 : a[i] = 58 := by rw [← h1]; exact UInt8.toNat_inj.1 (by have : (58 : UInt8).toNat = 58 := rfl; omega)
    rw [← h2]
    exact List.getElem_mem hi)
  have hbe : Hid (∀ (hz : p < lb.size), ((((lb[p]'hz).toNat : Int)) == 58) = true) := Lib.hid (fun hz => by
    subst hlb hpl
    rw [byE, beq_iff_eq]
    have h1 : (a ++ 58 :: z)[a.length]'(by simp) = 58 := by rw [List.getElem_append_right (Nat.le_refl _)]; simp
    rw [h1]; rfl)
  have hca : lb.extract 0 p = ⟨a.toArray⟩ := by subst hlb hpl; rw [cut_str]; simp
  have hcz : lb.extract (p + 1) lb.size = ⟨z.toArray⟩ := by
    rw [hls]
    subst hlb hpl
    rw [cut_str, List.take_of_length_le (by simp; omega)]
    simp
  have hTok := Lib.hid (fun W => refToken_any a W (by omega))
  have hLow := Lib.hid (fun W => refLower_any a W (by omega))
  have hTrm := Lib.hid (fun W => refTrim_any z W (by omega))
  unfold StrR at hLow
  rw [← hca] at hTok hLow
  rw [← hcz] at hTrm
  rw [ht] at hTok
  obtain ⟨la, hla⟩ : ∃ la, lowerL a = la := ⟨_, rfl⟩
  obtain ⟨tz, htz⟩ : ∃ tz, trimL z = tz := ⟨_, rfl⟩
  rw [hla] at hLow ⊢
  rw [htz] at hTrm ⊢
  rw [hlb]
  have hpz : p < lb.size := by omega
  have hzb : lb.size ≤ 9000 := by omega
  clear hlb h58 ht hca hcz hla htz hal hls
  obtain ⟨fl, hfl⟩ : ∃ fl, fs.length = fl := ⟨_, rfl⟩
  rw [hfl] at hcf ⊢
  obtain ⟨k, hk⟩ : ∃ k, w.heap.size = k := ⟨_, rfl⟩
  obtain ⟨w1, hw1⟩ : ∃ w1, w.alloc (.cells (rdX cl cb cf f (.slice A fl c) lb (n) true false 0) 77) = w1 := ⟨_, rfl⟩
  have hB1 : Below w.heap.size w w1 := by rw [← hw1]; exact (Below.refl _ _).alloc (Nat.le_refl _) _
  have z0 : Has w1 k 77 (rdX cl cb cf f (.slice A fl c) lb (n) true false 0) := by rw [← hw1, ← hk]; exact Has.new _ _ _
  have hz1 : w1.heap.size = k + 1 := by rw [← hw1, World.size_alloc, hk]
  obtain ⟨w2, hw2⟩ : ∃ w2, w1.alloc (.cells rdZ 77) = w2 := ⟨_, rfl⟩
  have hB2 : Below w.heap.size w w2 := by rw [← hw2]; exact hB1.alloc (by omega) _
  have x20 : Has w2 k 77 (rdX cl cb cf f (.slice A fl c) lb (n) true false 0) := by rw [← hw2]; exact z0.alloc _
  have x21 : Has w2 (k + 1) 77 rdZ := by rw [← hw2, ← hz1]; exact Has.new _ _ _
  have hz2 : w2.heap.size = k + 2 := by rw [← hw2, World.size_alloc, hz1]
  clear hB1 z0
  have ld2_5 := x20.cell 5
  have lc2 := x20.cell 5
  have fr2 := x20.free 5
  obtain ⟨w3, hw3⟩ : ∃ w3, w2.setCell ⟨k, 5, none⟩ (.string ⟨#[]⟩) = w3 := ⟨_, rfl⟩
  have x30 : Has w3 k 77 (rdX cl cb cf f (.slice A fl c) ⟨#[]⟩ (n) true false 0) := by rw [← hw3]; simpa using x20.put 5 (.string ⟨#[]⟩)
  have x31 : Has w3 (k + 1) 77 rdZ := by rw [← hw3]; exact x21.other (by omega) _
  have hB3 : Below w.heap.size w w3 := by rw [← hw3]; exact hB2.setCell (p := ⟨k, 5, none⟩) (by show _ ≤ k; omega) _
  have lc3 := x30.cell 7
  have fr3 := x30.free 7
  obtain ⟨w4, hw4⟩ : ∃ w4, w3.setCell ⟨k, 7, none⟩ (.bool false) = w4 := ⟨_, rfl⟩
  have x40 : Has w4 k 77 (rdX cl cb cf f (.slice A fl c) ⟨#[]⟩ (n) false false 0) := by rw [← hw4]; simpa using x30.put 7 (.bool false)
  have x41 : Has w4 (k + 1) 77 rdZ := by rw [← hw4]; exact x31.other (by omega) _
  have hB4 : Below w.heap.size w w4 := by rw [← hw4]; exact hB3.setCell (p := ⟨k, 7, none⟩) (by show _ ≤ k; omega) _
  have ld4_3 := x40.cell 3
  have ld4_4 := x40.cell 4
  have ld4_2 := x40.cell 2
  have hz4 : w4.heap.size = k + 2 := by rw [← hw4, ← hw3]; simpa [World.setCell] using hz2
  have hz4d : w4.drew.heap.size = k + 2 := hz4
  have s0 : Has w4.drew k 77 (rdX cl cb cf f (.slice A fl c) ⟨#[]⟩ (n) false false 0) := x40.drew
  have s1 : Has w4.drew (k + 1) 77 rdZ := x41.drew
  have hB4d : Below w.heap.size w w4.drew := hB4.drew
  obtain ⟨w6, hw6⟩ : ∃ w6, w4.drew.alloc (.cells #[] 69) = w6 := ⟨_, rfl⟩
  have hb6 : Below (k + 2) w4.drew w6 := by rw [← hw6, ← hz4d]; exact (Below.refl _ _).alloc (Nat.le_refl _) _
  have hz6 : w6.heap.size = k + 3 := by rw [← hw6, World.size_alloc, hz4d]
  have ho6 : HdsO w6 (k + 2) (.slice (some ⟨k + 2, 0, none⟩) 0 0) [] := by
    rw [← hw6, ← hz4d]
    exact World.ownsRow_made w4.drew #[] 0 (Nat.le_refl _) (Nat.zero_le _) (by simp)
  have hp6 : Prs w6 A fs := (hp.below hB4d).below (hb6.mono (by rw [hz4d]; omega))
  obtain ⟨v7, w7, hrun7, ho7, hg7⟩ := run_append_hdrs ho6 A (fun _ => by simp [Value.ownBlock]) c fs hA hp6 (by simp; omega) (by omega)
  rw [hfl] at hrun7
  rw [List.nil_append] at ho7
  have hb7 : Below (k + 2) w4.drew w7 := hb6.grown hg7 (by omega) (fun g e => by simp [Value.ownBlock] at e; omega)
  have hz7 : k + 2 ≤ w7.heap.size := by have := hg7.size; omega
  have hR7 := Lib.hid hrun7
  have hO7 := Lib.hid ho7
  have hB7 := Lib.hid hb7
  have hS0 := Lib.hid s0
  have hS1 := Lib.hid s1
  have hB4' := Lib.hid hB4d
  have hZ4 := Lib.hid hz4
  have hZ4d := Lib.hid hz4d
  have hpN := Lib.hid hpl
  have hFL := Lib.hid hfl
  have hFS := Lib.hid hfs
  have hcfI : ¬ cf ≤ (fl : Int) := by omega
  clear x20 x21 x30 x31 x40 x41 hB2 hB3 hB4 hb6 hz6 ho6 hp6 hrun7 ho7 hg7 hb7 s0 s1 hB4d hp hA hfs hcf hz4 hz4d hfl hpl
  go_enter Tryd.func52, Tryd.ntmps52
  go_wp2
  go_loopw [4] (fun x W => ∃ i : Nat, i ≤ p ∧ x = .int .i64 (i : Int) ∧ W = w4) (fun x _ => p + 1 - (intOf x).toNat)
  case atStart => exact ⟨0, Nat.zero_le _, rfl, by first | rfl | trivial⟩
  case round =>
    obtain ⟨i, hi, rfl, rfl⟩ := hrel
    have hilt : i < lb.size := by omega
    have hiltI : (i : Int) < (lb.size : Int) := by omega
    by_cases hlt : i < p
    · have hne := hbi.out i hilt hlt
      go_wp2
      exact ⟨⟨i + 1, by omega, by go_num, by first | rfl | trivial⟩, by simp [intOf]; omega⟩
    · obtain rfl : i = p := by omega
      have hee := hbe.out hilt
      have hile : i ≤ lb.size := by omega
      have hile2 : i + 1 ≤ lb.size := by omega
      go_upto_region 22 with (go_at_call 60; (with_reducible refine Calls.mono (hTok.out _) ?_); rintro e w5 ⟨rfl, hw5⟩; obtain rfl := hw5.symm)
      have q4 := hS0.out.cell 4
      have hz4 := hZ4.out
      have hwi : IntKind.i64.wrap ((i : Int) + 1) = ((i + 1 : Nat) : Int) := by rw [IntKind.wrap_i64]; omega
      have hw0 : (0 : Int) ≤ (i : Int) + 1 := by omega
      have hw1 : (i : Int) + 1 ≤ (lb.size : Int) := by omega
      have hq4 : w6.cell? ⟨k, 4, none⟩ = some (.slice A fl c) := by rw [← hw6]; exact (hS0.out.alloc _).cell 4
      go_region_law (first
        | (refine step_append_run rfl (.tmp 64) (.tmp 67) rfl rfl (by rfl) (by rfl) hR7.out ?_)
        | (go_simp
           go_at_call 33
           (with_reducible refine Calls.mono (hLow.out _) ?_)
           rintro e w8 ⟨rfl, hb8⟩
           have hb8' := hB7.out.trans (hb8.mono hz7)
           obtain ⟨n8, hn8⟩ : ∃ n8, w8.heap.size = n8 := ⟨_, rfl⟩
           have hk8 : k + 2 ≤ n8 := by rw [← hn8]; exact Nat.le_trans hz7 hb8.size
           obtain ⟨w9, hw9⟩ : ∃ w9, w8.alloc (.cells #[.string ⟨la.toArray⟩, .string ⟨tz.toArray⟩] 69) = w9 := ⟨_, rfl⟩
           have hx9 : Has w9 n8 69 #[.string ⟨la.toArray⟩, .string ⟨tz.toArray⟩] := by rw [← hw9, ← hn8]; exact Has.new _ _ _
           have hb89 : Below w8.heap.size w8 w9 := by rw [← hw9]; exact (Below.refl _ _).alloc (Nat.le_refl _) _
           have hb9 : Below (k + 2) wr.drew w9 := hb8'.trans (hb89.mono (by omega))
           have hz9 : w9.heap.size = n8 + 1 := by rw [← hw9, World.size_alloc, hn8]
           have ho9 : HdsO w9 (k + 2) v7 fs := (hO7.out.below hb8).below hb89
           have hp9 : Prs w9 (some ⟨n8, 0, none⟩) [(la, tz)] := fun _ => ⟨n8, 0, rfl, by omega, fun j q hj => by
             cases j with
             | zero => simp at hj; subst hj; exact ⟨hx9.cell 0, hx9.cell 1⟩
             | succ j => simp at hj⟩
           obtain ⟨v10, w10, hrun10, ho10, hg10⟩ := run_append_hdrs ho9 (some ⟨n8, 0, none⟩) (fun h => by cases h) 1 [(la, tz)] (fun h => by cases h) hp9 (by have := hFL.out; have := hFS.out; simp; omega) (by omega)
           have hb10 : Below (k + 2) wr.drew w10 := hb9.grown hg10 (by omega) (fun g e => (ho9.own g e).1)
           obtain ⟨A10, c10, hv10, _⟩ := ho10.prs
           have hfl1 : (fs ++ [(la, tz)]).length = fl + 1 := by rw [List.length_append, hFL.out]; rfl
           rw [hfl1] at hv10
           subst hv10
           have y0 := hS0.out.below hb10 (by omega)
           have y1 := hS1.out.below hb10 (by omega)
           have ya := y0.cell 4
           have yb := y0.free 4
           obtain ⟨w11, hw11⟩ : ∃ w11, w10.setCell ⟨k, 4, none⟩ (.slice A10 (fl + 1) c10) = w11 := ⟨_, rfl⟩
           have hsrc : Hid (Has w11 k 77 (rdX cl cb cf f (.slice A10 (fl + 1) c10) ⟨#[]⟩ (n) false false 0)) := Lib.hid (by rw [← hw11]; simpa using y0.put 4 (.slice A10 (fl + 1) c10))
           have hdst : Hid (Has w11 (k + 1) 77 rdZ) := Lib.hid (by rw [← hw11]; exact y1.other (by omega) _)
           have hBf : Hid (Below w.heap.size w w11) := Lib.hid (by rw [← hw11]; exact (hB4'.out.trans (hb10.mono (by omega))).setCell (p := ⟨k, 4, none⟩) (by show _ ≤ k; omega) _)
           have ho11 : Hid (HdsO w11 (k + 2) (.slice A10 (fl + 1) c10) (fs ++ [(la, tz)])) := Lib.hid (by rw [← hw11]; exact ho10.kept fun g hg => Below.heap_setCell w10 ⟨k, 4, none⟩ _ g (fun e => by have := (ho10.own g hg).1; simp at e; omega))
           have hR10 := Lib.hid hrun10
           clear hb8 hb8' hx9 hb89 hb9 ho9 hp9 hrun10 ho10 hg10 hb10 y0 y1)
        | (go_simp
           go_at_call 61
           (with_reducible refine Calls.mono (hTrm.out _) ?_)
           rintro e w12 ⟨rfl, hw12⟩
           obtain rfl := hw12.symm)
        | (refine step_append_run rfl (.tmp 68) (.tmp 79) rfl rfl (by rfl) (by rfl) hR10.out ?_))
      all_goals (
        clear ya yb hw11 hw9 hw6 hR10 hR7 ld4_3 ld4_4 ld4_2 q4 hq4 lc2 lc3 fr2 fr3 ld2_5 hw4 hw3 hee hbi hbe hTok hLow hTrm hS0 hS1 hB7 hO7
        have e0 := hsrc.out.cell 0
        have g0 := hdst.out.cell 0
        have u0 := hdst.out.free 0
        have e1 := hsrc.out.cell 1
        have g1 := hdst.out.cell 1
        have u1 := hdst.out.free 1
        have e2 := hsrc.out.cell 2
        have g2 := hdst.out.cell 2
        have u2 := hdst.out.free 2
        have e3 := hsrc.out.cell 3
        have g3 := hdst.out.cell 3
        have u3 := hdst.out.free 3
        have e4 := hsrc.out.cell 4
        have g4 := hdst.out.cell 4
        have u4 := hdst.out.free 4
        have e5 := hsrc.out.cell 5
        have g5 := hdst.out.cell 5
        have u5 := hdst.out.free 5
        have e6 := hsrc.out.cell 6
        have g6 := hdst.out.cell 6
        have u6 := hdst.out.free 6
        have e7 := hsrc.out.cell 7
        have g7 := hdst.out.cell 7
        have u7 := hdst.out.free 7
        have e8 := hsrc.out.cell 8
        have g8 := hdst.out.cell 8
        have u8 := hdst.out.free 8
        have e9 := hsrc.out.cell 9
        have g9 := hdst.out.cell 9
        have u9 := hdst.out.free 9
        go_wp2
        have kf := s10_has (k := k + 1) hdst.out rfl (.int .i64 cl) (.int .i64 cb) (.int .i64 cf) (.string f) (.slice A10 (fl + 1) c10) (.string ⟨#[]⟩) (.int .i64 (n)) (.bool false) (.bool false) (.int .i64 0)
        have y0 := kf.cell 0
        have y1 := kf.cell 1
        have y2 := kf.cell 2
        have y3 := kf.cell 3
        have y4 := kf.cell 4
        have y5 := kf.cell 5
        have y6 := kf.cell 6
        have y7 := kf.cell 7
        have y8 := kf.cell 8
        have y9 := kf.cell 9
        simp at y0 y1 y2 y3 y4 y5 y6 y7 y8 y9
        refine bodyPost_ret (v := .agg (rdX cl cb cf f (.slice A10 (fl + 1) c10) ⟨#[]⟩ (n) false false 0)) (by simp [results, Tryd.results52, go_sem, y0, y1, y2, y3, y4, y5, y6, y7, y8, y9]) rfl ?_
        have hBk := s10_below (k := k + 1) hBf.out (by omega) (.int .i64 cl) (.int .i64 cb) (.int .i64 cf) (.string f) (.slice A10 (fl + 1) c10) (.string ⟨#[]⟩) (.int .i64 (n)) (.bool false) (.bool false) (.int .i64 0)
        have hHk : HdsO (S10 w11 (k + 1) (.int .i64 cl) (.int .i64 cb) (.int .i64 cf) (.string f) (.slice A10 (fl + 1) c10) (.string ⟨#[]⟩) (.int .i64 (n)) (.bool false) (.bool false) (.int .i64 0)) w.heap.size (.slice A10 (fl + 1) c10) (fs ++ [(la, tz)]) := by
          refine HdsO.low (n0 := k + 2) (ho11.out.kept fun g hg => s10_kept _ _ _ _ _ _ _ _ _ _ ?_) (by omega)
          have := (ho11.out.own g hg).1
          omega
        refine ⟨_, rfl, ?_, ?_⟩
        · first | exact hHk | (rw [hk] at hHk; exact hHk)
        · first | exact hBk | (rw [hk] at hBk; exact hBk))
end Go.Proofs.YtabgpnieekcdhaaDoor
