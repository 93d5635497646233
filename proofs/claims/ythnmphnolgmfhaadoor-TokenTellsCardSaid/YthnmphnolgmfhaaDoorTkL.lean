import Derived.Test.YthnmphnolgmfhaaDoorTkK
namespace Go.Proofs.YthnmphnolgmfhaaDoor
open Go.RowKit
attribute [local go_sem] Oper.semAt_some class_at0 class_at1 class_at2

/-! ## The document's quoted texts -/
theorem drop_at (s : List UInt8) {i : Nat} (h : i < s.length) : s.drop i = s[i] :: s.drop (i + 1) := List.drop_eq_getElem_cons h
set_option maxRecDepth 100000 in
set_option maxHeartbeats 4000000 in
theorem refQuoted_any (s : List UInt8) (w : World) (hs : s.length ≤ 1000000) : Calls Tryd.prog 20 #[.string ⟨s.toArray⟩] w (QuotR (quotedL s) w) := by
  unfold QuotR
  by_cases h2 : s.length < 2
  · have hn : quotedL s = none := by
      match s, h2 with
      | [], _ => rfl
      | [b], _ =>
        unfold quotedL
        split
        · rename_i r h; injection h with _ h; subst h; rfl
        · rfl
    have h2I : (s.length : Int) < 2 := by omega
    rw [hn]
    clear hn
    go_enter Tryd.func20, Tryd.ntmps20
    go_wp2
    go_ret2
    exact ⟨rfl, Below.refl _ _⟩
  · have h2I : ¬ (s.length : Int) < 2 := by omega
    have h0 : 0 < s.length := by omega
    by_cases hq : s[0] = 34
    · have e0 : ((((⟨s.toArray⟩ : ByteArray)[0]'h0).toNat : Int) == 34) = true := by rw [byE s 0 h0, hq]; rfl
      obtain ⟨r, hr⟩ : ∃ r, s.drop 1 = r := ⟨_, rfl⟩
      have hql : quotedL s = goesL [] r := by
        have e := drop_at s h0
        rw [List.drop_zero, hq, hr] at e
        rw [e]
        show quoteL r = (quoteL r).map _
        cases quoteL r <;> rfl
      rw [hql]
      clear hql
      go_enter Tryd.func20, Tryd.ntmps20
      go_wp2
      go_loopw [4, 5] (fun v x W => ∃ (done : List UInt8) (i : Nat), 1 ≤ i ∧ i ≤ s.length ∧ x = .int .i64 (i : Int) ∧ Bs W w.heap.size v done ∧ goesL [] r = goesL done (s.drop i) ∧ done.length ≤ i ∧ Below w.heap.size w W) (fun _ x _ => s.length - (intOf x).toNat)
      case atStart => exact ⟨[], 1, Nat.le_refl _, by omega, rfl, bs_nil _ _, by rw [hr], by simp, Below.refl _ _⟩
      case round =>
        obtain ⟨done, i, hi1, hil, rfl, hbs, hgo, hdl, hb⟩ := hrel
        clear hr e0 hq
        have hb' := Lib.hid hb
        have hz3 := hb.size
        obtain ⟨Av, cv, hv, hrdv⟩ := hbs.shape
        subst hv
        have hbs' := Lib.hid hbs
        have hcv := Lib.hid (hrdv.text (P := Tryd.prog) 43 9 5 cv Tryd.underlying43 Tryd.underlying5 Tryd.underlying9)
        clear hbs hb hrdv
        by_cases hlt : i < s.length
        · have hltI : (i : Int) < (s.length : Int) := by omega
          rw [drop_at s hlt] at hgo
          have hbo := Lib.hid (fun W => show Calls Tryd.prog 27 #[.int .u8 (((⟨s.toArray⟩ : ByteArray)[i]'hlt).toNat : Int)] W fun e w' => e = .returned (.bool (valB s[i])) ∧ w' = W from byteOf_ref s[i] W)
          by_cases h34 : s[i] = 34
          · have e34 : ((((⟨s.toArray⟩ : ByteArray)[i]'hlt).toNat : Int) == 34) = true := by rw [byE s i hlt, h34]; rfl
            rw [h34] at hgo
            by_cases hend : i + 1 < s.length
            · have hI : (i : Int) < (s.length : Int) - 1 := by omega
              have hgo' := Lib.hid (show goesL [] r = none by
                rw [hgo]; unfold goesL; rw [quoteL_end, if_neg]; rfl
                intro e; have := congrArg List.length e; simp at this; omega)
              clear hgo hcv
              go_wp2
              go_ret2
              exact ⟨by rw [hgo'.out]; rfl, hb'.out⟩
            · have hI : ¬ (i : Int) < (s.length : Int) - 1 := by omega
              have hgo' := Lib.hid (show goesL [] r = some done by
                rw [hgo]; unfold goesL; rw [quoteL_end, if_pos (List.drop_of_length_le (by omega))]; simp)
              have hcv' := hcv.out
              clear hgo hcv
              go_wp2
              go_ret2
              exact ⟨by rw [hgo'.out]; rfl, hb'.out⟩
          · have e34 : ((((⟨s.toArray⟩ : ByteArray)[i]'hlt).toNat : Int) == 34) = false := by
              rw [byE s i hlt, beq_eq_false_iff_ne]
              intro e
              exact h34 (UInt8.toNat_inj.1 (by have : (34 : UInt8).toNat = 34 := rfl; omega))
            clear hcv
            by_cases h92 : s[i] = 92
            · have e92 : ((((⟨s.toArray⟩ : ByteArray)[i]'hlt).toNat : Int) == 92) = true := by rw [byE s i hlt, h92]; rfl
              rw [h92] at hgo
              clear hbo
              by_cases hend : i + 1 < s.length
              · have hI : ¬ (s.length : Int) ≤ ((i + 1 : Nat) : Int) := by omega
                have hI2 : (i : Int) + 1 < (s.length : Int) := by omega
                have hbo := Lib.hid (fun W => show Calls Tryd.prog 27 #[.int .u8 (((⟨s.toArray⟩ : ByteArray)[i + 1]'hend).toNat : Int)] W fun e w' => e = .returned (.bool (valB s[i + 1])) ∧ w' = W from byteOf_ref s[i + 1] W)
                rw [drop_at s hend] at hgo
                have hql := quoteL_esc2 s[i + 1] (s.drop (i + 1 + 1))
                cases hv : valB s[i + 1] with
                | false =>
                  have hgo' := Lib.hid (show goesL [] r = none by rw [hgo]; exact (goesL_step hql).2 hv)
                  rw [hv] at hbo
                  clear hgo hv hql
                  go_wp2_with (go_at_call 27; (with_reducible refine Calls.mono (hbo.out _) ?_); rintro e w7 ⟨rfl, hw7⟩; obtain rfl := hw7.symm)
                  go_ret2
                  exact ⟨by rw [hgo'.out]; rfl, hb'.out⟩
                | true =>
                  have hgo' := Lib.hid (show goesL [] r = goesL (done ++ [s[i + 1]]) (s.drop (i + 1 + 1)) by rw [hgo]; exact (goesL_step hql).1 hv)
                  rw [hv] at hbo
                  clear hgo hv hql
                  go_wp2_with (first | (go_at_call 27; (with_reducible refine Calls.mono (hbo.out _) ?_); rintro e w7 ⟨rfl, hw7⟩; obtain rfl := hw7.symm) | (at_builtin; refine wpList_append_rd rfl _ _ rfl rfl (hbs'.out.below ((Below.refl wr.heap.size wr).alloc (Nat.le_refl _) (.cells #[.int .u8 ((s[i + 1]).toNat : Int)] 5))) (· = wr.heap.size) (some ⟨wr.heap.size, 0, none⟩) [s[i + 1]] 1 1 rfl rfl (Has.rd (t := 5) (Has.new wr _ _)) (by simp; omega) (by simp; omega) ?_; intro v8 w8 ho8 hg8; have ho8' := Lib.hid ho8; have hg8' := Lib.hid hg8; clear ho8 hg8))
                  have al := (Below.refl wr.heap.size wr).alloc (Nat.le_refl _) (.cells #[.int .u8 ((s[i + 1]).toNat : Int)] 5)
                  have hbsA := hbs'.out.below al
                  have hB := (hb'.out.trans (al.mono hz3)).grown hg8'.out (by simp; omega) (fun g e => (hbsA.own g e).1)
                  exact ⟨⟨done ++ [s[i + 1]], i + 1 + 1, by omega, by omega, by go_num, ho8'.out, hgo'.out, by rw [List.length_append, List.length_singleton]; omega, hB⟩, by simp [intOf]; omega⟩
              · have hI : (s.length : Int) ≤ (i : Int) + 1 := by omega
                have hgo' := Lib.hid (show goesL [] r = none by
                  rw [hgo, List.drop_of_length_le (by omega : s.length ≤ i + 1)]; unfold goesL; rw [quoteL_esc1]; rfl)
                clear hgo
                go_wp2
                go_ret2
                exact ⟨by rw [hgo'.out]; rfl, hb'.out⟩
            · have e92 : ((((⟨s.toArray⟩ : ByteArray)[i]'hlt).toNat : Int) == 92) = false := by
                rw [byE s i hlt, beq_eq_false_iff_ne]
                intro e
                exact h92 (UInt8.toNat_inj.1 (by have : (92 : UInt8).toNat = 92 := rfl; omega))
              have hql := quoteL_else (s.drop (i + 1)) h34 h92
              cases hv : valB s[i] with
              | false =>
                have hgo' := Lib.hid (show goesL [] r = none by rw [hgo]; exact (goesL_step hql).2 hv)
                rw [hv] at hbo
                clear hgo hv hql
                go_wp2_with (go_at_call 27; (with_reducible refine Calls.mono (hbo.out _) ?_); rintro e w7 ⟨rfl, hw7⟩; obtain rfl := hw7.symm)
                go_ret2
                exact ⟨by rw [hgo'.out]; rfl, hb'.out⟩
              | true =>
                have hgo' := Lib.hid (show goesL [] r = goesL (done ++ [s[i]]) (s.drop (i + 1)) by rw [hgo]; exact (goesL_step hql).1 hv)
                rw [hv] at hbo
                clear hgo hv hql
                go_wp2_with (first | (go_at_call 27; (with_reducible refine Calls.mono (hbo.out _) ?_); rintro e w7 ⟨rfl, hw7⟩; obtain rfl := hw7.symm) | (at_builtin; refine wpList_append_rd rfl _ _ rfl rfl (hbs'.out.below ((Below.refl wr.heap.size wr).alloc (Nat.le_refl _) (.cells #[.int .u8 ((s[i]).toNat : Int)] 5))) (· = wr.heap.size) (some ⟨wr.heap.size, 0, none⟩) [s[i]] 1 1 rfl rfl (Has.rd (t := 5) (Has.new wr _ _)) (by simp; omega) (by simp; omega) ?_; intro v8 w8 ho8 hg8; have ho8' := Lib.hid ho8; have hg8' := Lib.hid hg8; clear ho8 hg8))
                have al := (Below.refl wr.heap.size wr).alloc (Nat.le_refl _) (.cells #[.int .u8 ((s[i]).toNat : Int)] 5)
                have hbsA := hbs'.out.below al
                have hB := (hb'.out.trans (al.mono hz3)).grown hg8'.out (by simp; omega) (fun g e => (hbsA.own g e).1)
                exact ⟨⟨done ++ [s[i]], i + 1, by omega, by omega, by go_num, ho8'.out, hgo'.out, by rw [List.length_append, List.length_singleton]; omega, hB⟩, by simp [intOf]; omega⟩
        · obtain rfl : i = s.length := by omega
          have hgo' := Lib.hid (show goesL [] r = none by rw [hgo, List.drop_of_length_le (Nat.le_refl _)]; rfl)
          clear hgo hcv
          go_wp2
          go_ret2
          exact ⟨by rw [hgo'.out]; rfl, hb'.out⟩
    · have e0 : ((((⟨s.toArray⟩ : ByteArray)[0]'h0).toNat : Int) == 34) = false := by
        rw [byE s 0 h0, beq_eq_false_iff_ne]
        intro e
        exact hq (UInt8.toNat_inj.1 (by have : (34 : UInt8).toNat = 34 := rfl; omega))
      have hn : quotedL s = none := by
        unfold quotedL
        split
        · exact absurd rfl hq
        · rfl
      rw [hn]
      clear hn
      go_enter Tryd.func20, Tryd.ntmps20
      go_wp2
      go_ret2
      exact ⟨rfl, Below.refl _ _⟩
end Go.Proofs.YthnmphnolgmfhaaDoor
