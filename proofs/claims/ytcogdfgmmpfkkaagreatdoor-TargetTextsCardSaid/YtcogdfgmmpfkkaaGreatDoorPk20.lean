import Derived.Test.YtcogdfgmmpfkkaaGreatDoorPk19
namespace Go.Proofs.YtcogdfgmmpfkkaaGreatDoor
open Go.RowKit Go.Shelf
attribute [local go_sem] Oper.semAt_some

/-! ## A text, written -/
set_option maxRecDepth 100000 in
set_option maxHeartbeats 4000000 in
theorem encodeT_any (s : List UInt8) (w : World) (hT : Tab w) (hs : s.length ≤ 600000) : Calls Tryz.prog 13 #[.string ⟨s.toArray⟩] w (StrR (encL s) w) := by
  have hT' := Lib.hid hT
  obtain ⟨i, hi, hz, hz1, hz2⟩ := info_parts infoB
  obtain ⟨w2, hrun, hown, hgr⟩ := run_make_own (P := Tryz.prog) (w := w) w.heap.size 59 5 i _ 1 Tryz.underlying59 hi hz hz1 .i64 .i64 s.length (by rw [hz2]; omega) (by simp only [maxLen]; omega) (by simp)
  have hb2 : Hid (Below w.heap.size w w2) := Lib.hid ((Below.refl _ w).grown hgr (by simp) (by intro k hk; cases hk))
  have hown' : Hid (Bs w2 w.heap.size (.slice (some ⟨w.heap.size, 0, none⟩) 0 s.length) []) := Lib.hid hown
  have hsI : (s.length : Int) ≤ 600000 := by omega
  clear hgr hown hi hz hz1 hz2 hT
  unfold StrR
  go_enter Tryz.func13, Tryz.ntmps13
  go_wp2
  go_loopw [3, 4, 10] (fun v _ x W => ∃ j : Nat, j ≤ s.length ∧ x = .int .i64 (j : Int) ∧ Bs W w.heap.size v (encL (s.take j)) ∧ Below w.heap.size w W) (fun _ _ x _ => s.length - (intOf x).toNat)
  case atStart => exact ⟨0, Nat.zero_le _, rfl, hown'.out, hb2.out⟩
  case round =>
    obtain ⟨j, hj, rfl, hbs, hb⟩ := hrel
    have hb' := Lib.hid hb
    have hz3 := Lib.hid hb.size
    obtain ⟨Av, cv, hv, hrdv⟩ := hbs.shape
    subst hv
    have hbs' := Lib.hid hbs
    have hcv := Lib.hid (hrdv.text (P := Tryz.prog) 59 9 5 cv Tryz.underlying59 Tryz.underlying5 Tryz.underlying9)
    clear hbs hb hrdv hrun hb2 hown'
    by_cases hlt : j < s.length
    · have hltI : (j : Int) < (s.length : Int) := by omega
      have htk := take_next s hlt
      have hel := encL_len (s.take j)
      rw [List.length_take] at hel
      have hel : (encL (s.take j)).length ≤ 3000000 := by omega
      obtain ⟨c, hc⟩ : ∃ c, s[j] = c := ⟨_, rfl⟩
      rw [hc] at htk
      have hbb : (((⟨s.toArray⟩ : ByteArray)[j]'hlt).toNat : Int) = (c.toNat : Int) := by rw [byE s j hlt, hc]
      have hst := Lib.hid (fun W => stands_any c W)
      clear hcv hc
      cases hp : plainB c with
      | true =>
        rw [hp] at hst
        have hen := Lib.hid (show encL (s.take (j + 1)) = encL (s.take j) ++ [c] by rw [htk, encL_snoc]; unfold encB; rw [if_pos hp])
        have hnew := Lib.hid (new_byte wr c.toNat c.toNat_lt)
        rw [UInt8.ofNat_toNat] at hnew
        clear htk hp
        generalize encL (s.take j) = el at *
        go_wp2_with (first
          | (go_at_call 34; (with_reducible refine Calls.mono (hst.out _) ?_); rintro e w7 ⟨rfl, hw7⟩; obtain rfl := hw7.symm)
          | (at_builtin; refine wpList_append_rd rfl _ _ rfl rfl (hbs'.out.below ((Below.refl wr.heap.size wr).alloc (Nat.le_refl _) (.cells #[.int .u8 (c.toNat : Int)] 5))) (· = wr.heap.size) (some ⟨wr.heap.size, 0, none⟩) [c] 1 1 rfl rfl hnew.out (by simp; omega) (by have := hz3.out; simp; omega) ?_; intro v8 w8 ho8 hg8; have ho8' := Lib.hid ho8; have hg8' := Lib.hid hg8; clear ho8 hg8))
        have al := (Below.refl wr.heap.size wr).alloc (Nat.le_refl _) (.cells #[.int .u8 (c.toNat : Int)] 5)
        have hbsA := hbs'.out.below al
        have hB := (hb'.out.trans (al.mono hz3.out)).grown hg8'.out (by have := hz3.out; simp; omega) (fun g e => (hbsA.own g e).1)
        exact ⟨⟨j + 1, by omega, by go_num, by rw [hen.out]; exact ho8'.out, hB⟩, by simp [intOf]; omega⟩
      | false =>
        rw [hp] at hst
        have hen := Lib.hid (show encL (s.take (j + 1)) = encL (s.take j) ++ [37, hexG (c.toNat / 16), hexG (c.toNat % 16)] by rw [htk, encL_snoc]; unfold encB; rw [if_neg (by rw [hp]; decide)])
        have hes := Lib.hid (escaped_any c wr (hT'.out.below hb'.out))
        unfold StrR at hes
        clear htk hp
        generalize encL (s.take j) = el at *
        generalize hexG (c.toNat / 16) = h1 at *
        generalize hexG (c.toNat % 16) = h2 at *
        go_wp2_with (first
          | (go_at_call 34; (with_reducible refine Calls.mono (hst.out _) ?_); rintro e w7 ⟨rfl, hw7⟩; obtain rfl := hw7.symm)
          | (go_at_call 35; (with_reducible refine Calls.mono hes.out ?_); rintro e w3 ⟨rfl, hb3⟩; have hb3' := Lib.hid hb3; have hz4 := Lib.hid hb3.size; clear hb3)
          | (at_builtin; refine wpList_append_text rfl _ _ rfl rfl (hbs'.out.below hb3'.out) ⟨#[37, h1, h2]⟩ rfl (by show el.length + 3 ≤ _; omega) (by have := hz3.out; have := hz4.out; omega) ?_; intro v8 w8 ho8 hg8; have ho8' := Lib.hid ho8; have hg8' := Lib.hid hg8; clear ho8 hg8))
        have hbsA := hbs'.out.below hb3'.out
        have hB := (hb'.out.trans (hb3'.out.mono hz3.out)).grown hg8'.out (by have := hz3.out; have := hz4.out; omega) (fun g e => (hbsA.own g e).1)
        exact ⟨⟨j + 1, by omega, by go_num, by rw [hen.out]; exact ho8'.out, hB⟩, by simp [intOf]; omega⟩
    · obtain rfl : j = s.length := by omega
      have hcv' := hcv.out
      rw [List.take_length] at *
      clear hcv
      go_wp2
      go_ret
      exact ⟨rfl, hb'.out⟩
end Go.Proofs.YtcogdfgmmpfkkaaGreatDoor
