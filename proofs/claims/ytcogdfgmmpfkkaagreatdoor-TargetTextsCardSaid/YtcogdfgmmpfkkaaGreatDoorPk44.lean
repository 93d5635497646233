import Derived.Test.YtcogdfgmmpfkkaaGreatDoorPk43
namespace Go.Proofs.YtcogdfgmmpfkkaaGreatDoor
open Go.RowKit
attribute [local go_sem] Oper.semAt_some

/-! ## The law of TargetParses -/
theorem pairL_len {x : List UInt8} {q : PairL} (h : pairL x = some q) : q.1.length ≤ x.length ∧ q.2.length ≤ x.length := by
  unfold pairL at h
  split at h
  · rename_i k v h1 h2
    obtain rfl := Option.some.inj h
    have a := decL_len h1
    have b := decL_len h2
    rw [List.length_take] at a
    rw [List.length_drop] at b
    simp only
    omega
  · cases h
theorem partL_dec {x p : List UInt8} (h : partL x = some p) : decL false x = some p ∧ partB p = true := by
  unfold partL at h
  split at h
  · rename_i y hy
    split at h
    · obtain rfl := Option.some.inj h
      exact ⟨hy, by assumption⟩
    · cases h
  · cases h
theorem parse_few {s : List UInt8} {t : TgL} (h : parseTg s = some t) (hs : s.length ≤ 900) : t.1.length ≤ s.length + 1 ∧ t.2.length ≤ s.length + 1 ∧ (∀ x ∈ t.1, x.length ≤ s.length) ∧ ∀ q ∈ t.2, q.1.length ≤ s.length ∧ q.2.length ≤ s.length := by
  unfold parseTg at h
  split at h
  · cases hp : allL partL (betw 47 ((s.take (atL 63 s)).drop 1)) with
    | none => rw [hp] at h; simp at h
    | some p =>
      cases hq : allL pairL ((betw 38 (s.drop (atL 63 s + 1))).filter fun q => decide (q ≠ [])) with
      | none => rw [hp, hq] at h; simp at h
      | some q =>
        rw [hp, hq] at h
        obtain rfl := Option.some.inj h
        have l1 := allL_len hp
        have l2 := allL_len hq
        have m1 := partsG_many 47 ((s.take (atL 63 s)).drop 1)
        have m2 := partsG_many 38 (s.drop (atL 63 s + 1))
        have f2 := List.length_filter_le (fun q => decide (q ≠ [])) (betw 38 (s.drop (atL 63 s + 1)))
        rw [betw_parts] at l1 f2
        rw [← betw_parts] at f2
        rw [List.length_drop, List.length_take] at m1
        rw [List.length_drop] at m2
        rw [betw_parts] at f2
        refine ⟨by simp only; omega, by rw [betw_parts] at l2; simp only; omega, fun x hx => ?_, fun y hy => ?_⟩
        · obtain ⟨z, hz, hzx⟩ := allL_mem hp x hx
          have a := decL_len (partL_dec hzx).1
          have b := betw_all hz
          rw [List.length_drop, List.length_take] at b
          omega
        · obtain ⟨z, hz, hzx⟩ := allL_mem hq y hy
          have a := pairL_len hzx
          have b := betw_all (List.mem_filter.1 hz).1
          rw [List.length_drop] at b
          omega
  · cases h
theorem parse_fewT {s : List UInt8} {t : TgL} (h : parseTg s = some t) (hs : s.length ≤ 900) : FewT t := by
  obtain ⟨h1, h2, h3, h4⟩ := parse_few h hs
  exact ⟨by omega, by omega, fun x hx => by have := h3 x hx; omega, fun q hq => by have := h4 q hq; omega⟩
/-- A target, or an empty one. -/
def orT (o : Option TgL) : TgL := o.getD ([], [])
def errT (o : Option TgL) : Int := match o with
  | some _ => 0
  | none => 210
theorem orT_few {s : List UInt8} (hs : s.length ≤ 900) : FewT (orT (parseTg s)) := by
  cases h : parseTg s with
  | none => exact ⟨by simp [orT], by simp [orT], by simp [orT], by simp [orT]⟩
  | some t => exact parse_fewT h hs
theorem ParseR.any {o : Option TgL} {w w' : World} {e : Ending} (h : ParseR o w e w') : (∃ A1 c1 A2 c2, e = .returned (.tuple #[.agg #[.slice A1 (orT o).1.length c1, .slice A2 (orT o).2.length c2], .int .i64 (errT o)]) ∧ Txs w' A1 (orT o).1 ∧ Prs w' A2 (orT o).2) ∧ Below w.heap.size w w' := by
  cases o with
  | none =>
    obtain ⟨h1, h2⟩ := h
    exact ⟨⟨none, 0, none, 0, h1, Txs.nil _ _, Prs.nil _ _⟩, h2⟩
  | some t =>
    obtain ⟨⟨v, rfl, A1, c1, A2, c2, rfl, h1, h2⟩, hb⟩ := h
    exact ⟨⟨A1, c1, A2, c2, rfl, h1, h2⟩, hb⟩
def decT (o : Option (List UInt8)) : List UInt8 := o.getD []
def decE (o : Option (List UInt8)) : Int := match o with
  | some _ => 0
  | none => 210
theorem decV_two (o : Option (List UInt8)) : decV o = .tuple #[.string ⟨(decT o).toArray⟩, .int .i64 (decE o)] := by cases o <;> rfl
set_option maxRecDepth 100000 in
set_option maxHeartbeats 8000000 in
theorem parses_near (hP : TgProg) (s : List UInt8) (w : World) (hs : s.length ≤ 200) (hT : TabT w) : Calls Tryz.prog 3 #[.string ⟨s.toArray⟩] w (BoolR true w) := by
  unfold BoolR
  have hT' := Lib.hid hT
  have hsI : ¬ (200 : Int) < (s.length : Int) := by omega
  have h1 := Lib.hid (fun W hW => (hP.parse s W hW (by omega)).mono (fun _ _ h => h.any))
  have h2 := Lib.hid (fun W => (refParse_any s W (by omega)).mono (fun _ _ h => h.any))
  have hfw := orT_few (s := s) (by omega)
  have h3 := Lib.hid (fun A1 A2 B1 B2 c1 c2 d1 d2 W k1 k2 k3 k4 => refSame_any A1 A2 B1 B2 c1 c2 d1 d2 (orT (parseTg s)) (orT (parseTg s)) W hfw hfw k1 k2 k3 k4)
  have hn1 : (orT (parseTg s)).1.length ≤ 1000 := hfw.parts
  have hn2 : (orT (parseTg s)).2.length ≤ 1000 := hfw.pairs
  have d0 := Lib.hid (fun W hW => hP.decode false s W hW (by omega))
  have d1 := Lib.hid (fun W hW => hP.decode true s W hW (by omega))
  have e0 := Lib.hid (fun W => refDecode_any false s W (by omega))
  have e1 := Lib.hid (fun W => refDecode_any true s W (by omega))
  have hel := encL_len s
  have d2 := Lib.hid (fun W hW => hP.decode true (encL s) W hW (by omega))
  have h4 := Lib.hid (fun W hW => hP.encode s W hW (by omega))
  have h5 := Lib.hid (fun W => refEncode_any s W (by omega))
  unfold DecR at d0 d1 d2 e0 e1
  rw [dec_enc] at d2
  simp only [decV_two] at d0 d1 e0 e1
  simp only [decV] at d2
  unfold StrR at h4
  unfold BoolR at h3
  rw [decide_eq_true rfl] at h3
  generalize parseTg s = o at *
  generalize errT o = eo at *
  generalize hlo1 : (orT o).1.length = lo1 at *
  generalize hlo2 : (orT o).2.length = lo2 at *
  generalize decT (decL false s) = r0 at *
  generalize decT (decL true s) = r1 at *
  generalize decE (decL false s) = z0 at *
  generalize decE (decL true s) = z1 at *
  generalize hen : encL s = es at *
  clear hfw hT hen
  go_enter Tryz.func3, Tryz.ntmps3
  go_upto_region 4 with (go_at_call 7; (with_reducible refine Calls.mono (h1.out _ hT'.out) ?_); rintro e w1 ⟨⟨A1, c1, A2, c2, rfl, hx1, hx2⟩, hb1⟩; have hb1' := Lib.hid hb1; have hx1' := Lib.hid hx1; have hx2' := Lib.hid hx2; clear hb1 hx1 hx2)
  have hkA := Has.new w1 26 #[.slice A1 lo1 c1, .slice A2 lo2 c2]
  have alA := (Below.refl w1.heap.size w1).alloc (Nat.le_refl _) (.cells #[.slice A1 lo1 c1, .slice A2 lo2 c2] 26)
  obtain ⟨wA, hwA⟩ : ∃ X, w1.alloc (.cells #[.slice A1 lo1 c1, .slice A2 lo2 c2] 26) = X := ⟨_, rfl⟩
  rw [hwA] at hkA alA ⊢
  have hBA := Lib.hid (below_on hb1'.out alA)
  have hxA1 := Lib.hid (hx1'.out.below alA)
  have hxA2 := Lib.hid (hx2'.out.below alA)
  have hkA' := Lib.hid hkA
  clear hwA hkA alA hb1' hx1' hx2'
  go_upto_region 5 with (go_at_call 8; (with_reducible refine Calls.mono (h2.out _) ?_); rintro e w2 ⟨⟨B1, d1', B2, d2', rfl, hy1, hy2⟩, hb2⟩; have hb2' := Lib.hid hb2; have hy1' := Lib.hid hy1; have hy2' := Lib.hid hy2; clear hb2 hy1 hy2)
  have hkB := Has.new w2 26 #[.slice B1 lo1 d1', .slice B2 lo2 d2']
  have alB := (Below.refl w2.heap.size w2).alloc (Nat.le_refl _) (.cells #[.slice B1 lo1 d1', .slice B2 lo2 d2'] 26)
  obtain ⟨wB, hwB⟩ : ∃ X, w2.alloc (.cells #[.slice B1 lo1 d1', .slice B2 lo2 d2'] 26) = X := ⟨_, rfl⟩
  rw [hwB] at hkB alB ⊢
  have alB2 := below_on hb2'.out alB
  have hBB := Lib.hid (below_on hBA.out alB2)
  have hxB1 := Lib.hid (hxA1.out.below alB2)
  have hxB2 := Lib.hid (hxA2.out.below alB2)
  have hyB1 := Lib.hid (hy1'.out.below alB)
  have hyB2 := Lib.hid (hy2'.out.below alB)
  have hkA2 := hkA'.out.below alB2 hkA'.out.lt
  have a0 : wB.cell? ⟨w1.heap.size, 0, none⟩ = some (.slice A1 lo1 c1) := hkA2.cell 0
  have a1 : wB.cell? ⟨w1.heap.size, 1, none⟩ = some (.slice A2 lo2 c2) := hkA2.cell 1
  have b0 : wB.cell? ⟨w2.heap.size, 0, none⟩ = some (.slice B1 lo1 d1') := hkB.cell 0
  have b1 : wB.cell? ⟨w2.heap.size, 1, none⟩ = some (.slice B2 lo2 d2') := hkB.cell 1
  clear hwB hkB alB alB2 hBA hxA1 hxA2 hkA' hkA2 hy1' hy2' hb2'
  go_wp2_with (first
    | (go_at_call 10; (with_reducible refine Calls.mono (num_any _ _) ?_); rintro e w9 ⟨rfl, hw9⟩; obtain rfl := hw9.symm)
    | (go_at_call 9; (with_reducible refine Calls.mono (h3.out _ _ _ _ _ _ _ _ _ hxB1.out hxB2.out hyB1.out hyB2.out) ?_); rintro e w3 ⟨rfl, hb3⟩; have hB3 := Lib.hid (below_on hBB.out hb3); clear hb3))
  clear a0 a1 b0 b1
  go_loopw [7] (fun x W => ∃ k : Nat, k ≤ 2 ∧ x = .int .i64 (k : Int) ∧ Below w.heap.size w W) (fun x _ => 2 - (intOf x).toNat)
  case atStart => exact ⟨0, by omega, rfl, hB3.out⟩
  case round =>
    obtain ⟨k, hk, rfl, hb⟩ := hrel
    have hb' := Lib.hid hb
    clear hb
    rcases (by omega : k = 0 ∨ k = 1 ∨ k = 2) with rfl | rfl | rfl
    · go_wp2_with (first
        | (go_at_call 11; (with_reducible refine Calls.mono (d0.out _ (hT'.out.below hb'.out)) ?_); rintro e w4 ⟨rfl, hb4⟩; have hB4 := Lib.hid (below_on hb'.out hb4); clear hb4)
        | (go_at_call 12; (with_reducible refine Calls.mono (e0.out _) ?_); rintro e w5 ⟨rfl, hb5⟩; have hB5 := Lib.hid (below_on hB4.out hb5); clear hb5)
        | (go_at_call 10; (with_reducible refine Calls.mono (num_any _ _) ?_); rintro e w9 ⟨rfl, hw9⟩; obtain rfl := hw9.symm))
      exact ⟨⟨1, by omega, by go_num, hB5.out⟩, by simp [intOf]⟩
    · go_wp2_with (first
        | (go_at_call 11; (with_reducible refine Calls.mono (d1.out _ (hT'.out.below hb'.out)) ?_); rintro e w4 ⟨rfl, hb4⟩; have hB4 := Lib.hid (below_on hb'.out hb4); clear hb4)
        | (go_at_call 12; (with_reducible refine Calls.mono (e1.out _) ?_); rintro e w5 ⟨rfl, hb5⟩; have hB5 := Lib.hid (below_on hB4.out hb5); clear hb5)
        | (go_at_call 10; (with_reducible refine Calls.mono (num_any _ _) ?_); rintro e w9 ⟨rfl, hw9⟩; obtain rfl := hw9.symm))
      exact ⟨⟨2, by omega, by go_num, hB5.out⟩, by simp [intOf]⟩
    · go_wp2_with (first
        | (go_at_call 13; (with_reducible refine Calls.mono (h4.out _ (hT'.out.below hb'.out)) ?_); rintro e w4 ⟨rfl, hb4⟩; have hB4 := Lib.hid (below_on hb'.out hb4); clear hb4)
        | (go_at_call 11; (with_reducible refine Calls.mono (d2.out _ (hT'.out.below hB4.out)) ?_); rintro e w5 ⟨rfl, hb5⟩; have hB5 := Lib.hid (below_on hB4.out hb5); clear hb5)
        | (go_at_call 14; (with_reducible refine Calls.mono (h5.out _) ?_); rintro e w6 ⟨rfl, q6, hw6⟩; have hB6 := Lib.hid (show Below w.heap.size w w6 by rw [hw6]; exact below_draws hB5.out q6); clear hw6)
        | (go_at_call 10; (with_reducible refine Calls.mono (num_any _ _) ?_); rintro e w9 ⟨rfl, hw9⟩; obtain rfl := hw9.symm)
        | (go_at_call 6; (with_reducible refine Calls.mono (works_any hP _ (hT'.out.below hB6.out)) ?_); rintro e w7 ⟨rfl, hb7⟩; have hB7 := Lib.hid (below_on hB6.out hb7); clear hb7))
      go_ret
      exact ⟨rfl, hB7.out⟩
theorem parses_far (hP : TgProg) (s : List UInt8) (w : World) (hs : ¬ s.length ≤ 200) (hT : TabT w) : Calls Tryz.prog 3 #[.string ⟨s.toArray⟩] w (BoolR true w) := by
  unfold BoolR
  have hw := Lib.hid (works_any hP w hT)
  unfold BoolR at hw
  have hsI : (200 : Int) < (s.length : Int) := by omega
  clear hs hT
  go_enter Tryz.func3, Tryz.ntmps3
  go_wp2_with (go_at_call 6; (with_reducible refine Calls.mono hw.out ?_); rintro e w1 ⟨rfl, hb1⟩)
  go_ret
  exact ⟨rfl, hb1⟩
end Go.Proofs.YtcogdfgmmpfkkaaGreatDoor
