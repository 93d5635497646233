import Derived.Test.YthdmmlaahjgijaaDoorN
namespace Go.Proofs.YthdmmlaahjgijaaDoor
open Go.RowKit Go.Shelf

/-! ## The stage's theorem: however bytes come in pieces, the same is told -/
theorem holds_works (A B : Option Addr) (len cap len2 cap2 : Nat) (w : World) (hT : Tab w) (hl : 300 < len) (hm : len ≤ maxLen) :
    Calls Tryd.prog 7 #[.slice A len cap, .slice B len2 cap2] w fun e w' => e = .returned (.bool true) ∧ Below w.heap.size w w' := by
  unfold maxLen at hm
  have hw := Lib.hid (works_any w hT)
  go_enter Tryd.func7, Tryd.ntmps7
  go_wp2_with (go_at_call 11; refine hw.out.mono ?_; rintro e w9 ⟨rfl, hb9⟩)
  go_ret
  exact ⟨rfl, hb9⟩
/-- What a round rests on: so many bytes came; what is told of them, and which wait. -/
def HdM (w : World) (d : Nat) (bs : List UInt8) (at_ : Nat) (s : ByteArray) (W : World) : Prop :=
  s.data.toList = (run4 (bs.take at_)).1 ∧ Dec W d (run4 (bs.take at_)).2 ∧ Below w.heap.size w W
theorem take_cut (bs : List UInt8) (i n : Nat) : bs.take (i + n) = bs.take i ++ (bs.drop i).take n := by rw [List.take_add]
theorem run4_more (bs : List UInt8) (i n : Nat) : run4 (bs.take (i + n)) = ((run4 (bs.take i)).1 ++ (run4 ((run4 (bs.take i)).2 ++ (bs.drop i).take n)).1, (run4 ((run4 (bs.take i)).2 ++ (bs.drop i).take n)).2) := by rw [take_cut, run4_append]
theorem run4_len (l : List UInt8) : (run4 l).1.length ≤ 3 * l.length := by
  have h1 := ofB_len l
  have h2 := congrArg List.length (of_run l)
  rw [List.length_append] at h2
  omega
theorem byte256 (b : UInt8) : b.toNat < 256 := b.toNat_lt
set_option maxRecDepth 100000 in
set_option maxHeartbeats 4000000 in
theorem lawHolds (A B : Option Addr) (m cap m2 cap2 : Nat) (bs cs : List UInt8) (w : World) (hT : Tab w) (hm : m = bs.length) (hm2 : m2 = cs.length) (hA : Rd w (· < w.heap.size) A bs) (hB : Rd w (· < w.heap.size) B cs)
    (hl : m ≤ 300) (hc : m ≤ cap) (hcm : cap ≤ maxLen) (hm2m : m2 ≤ maxLen) :
    Calls Tryd.prog 7 #[.slice A m cap, .slice B m2 cap2] w fun e w' => e = .returned (.bool true) ∧ Below w.heap.size w w' := by
  unfold maxLen at hcm hm2m
  have hT' := Lib.hid hT
  have hm' := Lib.hid hm
  have hm2' := Lib.hid hm2
  have hA' := Lib.hid hA
  have hB' := Lib.hid hB
  have hg0 := hT.lt
  have hD1 := Lib.hid (dec_new w)
  have hb1 := Lib.hid ((Below.refl w.heap.size w).alloc (Nat.le_refl _) (.cells #[.int .u8 0, .int .u8 0, .int .u8 0, .int .i64 0, .bool true] 57))
  clear hT hm hm2 hA hB
  go_enter Tryd.func7, Tryd.ntmps7
  go_wp2_with (go_at_call 21; refine (new_any _).mono ?_; rintro e w1 ⟨rfl, rfl⟩)
  go_loopw [6, 7, 8] (fun x6 x7 x8 W => ∃ (at_ i : Nat) (s : ByteArray), x6 = .string s ∧ x7 = .int .i64 (at_ : Int) ∧ x8 = .int .i64 (i : Int) ∧ at_ ≤ m ∧ i ≤ 5001 ∧ HdM w w.heap.size bs at_ s W) (fun _ _ x8 _ => 5002 - (intOf x8).toNat)
  case atStart =>
    refine ⟨0, 0, ⟨#[]⟩, rfl, rfl, rfl, Nat.zero_le _, by omega, ?_, ?_, hb1.out⟩
    · rw [List.take_zero, run4_nil]
    · rw [List.take_zero, run4_nil]; exact hD1.out
  case round =>
    obtain ⟨at_, i, s, rfl, rfl, rfl, hat, hi, hs, hD, hBW⟩ := hrel
    have hs' := Lib.hid hs
    have hD' := Lib.hid hD
    have hBW' := Lib.hid hBW
    have hTW := Lib.hid (hT'.out.below hBW)
    have hsl : s.size ≤ 900 := by
      have h1 := ofB_len (bs.take at_)
      have h2 := of_run (bs.take at_)
      have h3 := congrArg List.length h2
      rw [List.length_append, ← hs] at h3
      have h4 : s.data.toList.length = s.size := by simp only [Array.length_toList]; rfl
      have := hm'.out
      rw [List.length_take] at h1
      omega
    clear hs hD hBW
    by_cases hlt : at_ < m
    · have hac : (at_ : Int) < (cap : Int) := by omega
      obtain ⟨ad, had, _⟩ := hA'.out (by have := hm'.out; omega)
      subst had
      have hwr : ∀ n, n ≤ m - at_ → Calls Tryd.prog 26 #[.pointer (some ⟨w.heap.size, 0, none⟩), .slice (some (ad.add at_)) n (cap - at_)] wr (Wrote w.heap.size (run4 ((run4 (bs.take at_)).2 ++ (bs.drop at_).take n)).1 (run4 ((run4 (bs.take at_)).2 ++ (bs.drop at_).take n)).2 wr) := by
        intro n hn
        have hml := hm'.out
        refine write_any w.heap.size _ _ (some (ad.add at_)) n (cap - at_) wr hD'.out (by rw [List.length_take, List.length_drop]; omega) ?_ hTW.out (by rw [List.length_take]; omega)
        have h1 := ((hA'.out.kept (Kept.below hBW'.out (fun _ h => h))).mono (S' := (· < wr.heap.size)) (fun b hb => by have hb : b < w.heap.size := hb; have := hBW'.out.size; show b < wr.heap.size; omega)).drop at_ cap (by omega)
        rw [if_neg (by omega)] at h1
        exact h1.take n
      by_cases hil : i < m2
      · obtain ⟨ad2, had2, hblt, hcell⟩ := hB'.out (by have := hm2'.out; omega)
        subst had2
        have hic : i < cs.length := by have := hm2'.out; omega
        have hci := hcell i (byt cs[i]) (byts_at hic)
        have hci2 : wr.cell? (ad2.add i) = some (byt cs[i]) := (hBW'.out.cell (p := ad2.add i) (by rw [add_block_]; exact hblt)).trans hci
        unfold byt at hci2
        have hb256 := byte256 cs[i]
        have hili : (i : Int) < (m2 : Int) := by omega
        obtain ⟨q, hq⟩ : ∃ q, (cs[i].toNat : Int) % 9 = ((q : Nat) : Int) := ⟨cs[i].toNat % 9, by omega⟩
        generalize cs[i].toNat = cn at hci2 hq hb256
        clear hci hcell
        by_cases hqm : q ≤ m - at_
        · have hq1 : (q : Int) ≤ (m : Int) - (at_ : Int) := by omega
          have hn1 : q ≤ m - at_ := by omega
          have hw := hwr q hn1
          have hmore := run4_more bs at_ q
          obtain ⟨x, hx⟩ : ∃ x, (bs.drop at_).take q = x := ⟨_, rfl⟩
          have hxl : x.length ≤ q := by rw [← hx]; exact List.length_take_le _ _
          rw [hx] at hw hmore
          have htl := run4_len ((run4 (bs.take at_)).2 ++ x)
          rw [List.length_append] at htl
          have h3 := run_three (bs.take at_)
          have h33 := run_three ((run4 (bs.take at_)).2 ++ x)
          obtain ⟨tl, htle⟩ : ∃ tl, (run4 ((run4 (bs.take at_)).2 ++ x)).1 = tl := ⟨_, rfl⟩
          obtain ⟨ws, hwse⟩ : ∃ ws, (run4 ((run4 (bs.take at_)).2 ++ x)).2 = ws := ⟨_, rfl⟩
          rw [htle] at hw hmore htl
          rw [hwse] at hw hmore h33
          obtain ⟨s1, hs1⟩ : ∃ s1 : ByteArray, (⟨tl.toArray⟩ : ByteArray) = s1 := ⟨_, rfl⟩
          have hz1 : s1.size = tl.length := by rw [← hs1]; show tl.toArray.size = _; simp
          have hz1b : s1.size ≤ 1000 := by omega
          have hs1l : s1.data.toList = tl := by rw [← hs1]
          have hw2 := hw.mono (R' := fun e w2 => e = .returned (.tuple #[.string s1, .int .i64 0]) ∧ Dec w2 w.heap.size ws ∧ Chg (· = w.heap.size) wr w2) (fun e w2 ⟨h1, h2, h3⟩ => ⟨h1.trans (by rw [hs1]), h2, h3⟩)
          have hw' := Lib.hid hw2
          have hmore' := Lib.hid hmore
          have hs1' := Lib.hid hs1l
          have hws3 := Lib.hid h33
          have hn1' := Lib.hid hn1
          have hcat : (s ++ s1).data.toList = s.data.toList ++ s1.data.toList := by simp [ByteArray.data_append]
          have hcat' := Lib.hid hcat
          clear hw hw2 hmore hx hxl htl h3 h33 htle hwse hs1 hz1 hs1l hwr hcat
          go_wp2_with fail
          refine hw'.out.mono ?_
          rintro e w2 ⟨rfl, hD2, hC2⟩
          have hB2 := hBW'.out.trans (hC2.below (B := w.heap.size) (fun k hk => by omega) hBW'.out.size)
          have hwt := Lib.hid (waits_any _ _ w2 hD2)
          have hD2' := Lib.hid hD2
          have hB2' := Lib.hid hB2
          clear hD2 hB2 hC2
          obtain ⟨k, hk⟩ : ∃ k, ws.length = k := ⟨_, rfl⟩
          have hk3 : k ≤ 3 := by have := hws3.out; omega
          have hk' := Lib.hid hk
          clear hk
          by_cases hi5 : i ≤ 5000
          · go_wp2_with (first | (go_at_call 24; refine (num_any _ _).mono ?_; rintro e w' ⟨rfl, rfl⟩) | (go_at_call 28; refine hwt.out.mono ?_; rintro e w3 ⟨v3, rfl, hv3, hb3⟩; obtain ⟨A3, c3, rfl, _⟩ := hv3.shape; rw [hk'.out]; have hb3' := Lib.hid hb3; clear hv3 hb3))
            refine ⟨⟨at_ + q, i + 1, s ++ s1, rfl, by go_num, by go_num, by have := hn1'.out; omega, by omega, ?_, ?_, hB2'.out.trans (hb3'.out.mono hB2'.out.size)⟩, by simp [intOf]; omega⟩
            · rw [hcat'.out, hs'.out, hs1'.out, hmore'.out]
            · rw [hmore'.out]; exact hD2'.out.below hb3'.out
          · obtain rfl : i = 5001 := by omega
            have hTB := Lib.hid (hT'.out.below hB2'.out)
            go_wp2_with (first | (go_at_call 24; refine (num_any _ _).mono ?_; rintro e w' ⟨rfl, rfl⟩) | (go_at_call 28; refine hwt.out.mono ?_; rintro e w3 ⟨v3, rfl, hv3, hb3⟩; obtain ⟨A3, c3, rfl, _⟩ := hv3.shape; rw [hk'.out]; have hb3' := Lib.hid hb3; have hwk := Lib.hid (works_any w3 (hTB.out.below hb3)); clear hv3 hb3) | (go_at_call 11; refine hwk.out.mono ?_; rintro e w9 ⟨rfl, hb9⟩))
            go_ret
            exact ⟨rfl, (hB2'.out.trans (hb3'.out.mono hB2'.out.size)).trans (hb9.mono (Nat.le_trans hB2'.out.size hb3'.out.size))⟩
        · have hq1 : (m : Int) - (at_ : Int) < (q : Int) := by omega
          obtain ⟨r, hr⟩ : ∃ r, (m : Int) - (at_ : Int) = ((r : Nat) : Int) := ⟨m - at_, by omega⟩
          have hr2 : r = m - at_ := by omega
          have hr2' := Lib.hid hr2
          clear hr2
          have hn1 : r ≤ m - at_ := by have := hr2'.out; omega
          have hw := hwr r hn1
          have hmore := run4_more bs at_ r
          obtain ⟨x, hx⟩ : ∃ x, (bs.drop at_).take r = x := ⟨_, rfl⟩
          have hxl : x.length ≤ r := by rw [← hx]; exact List.length_take_le _ _
          rw [hx] at hw hmore
          have htl := run4_len ((run4 (bs.take at_)).2 ++ x)
          rw [List.length_append] at htl
          have h3 := run_three (bs.take at_)
          have h33 := run_three ((run4 (bs.take at_)).2 ++ x)
          obtain ⟨tl, htle⟩ : ∃ tl, (run4 ((run4 (bs.take at_)).2 ++ x)).1 = tl := ⟨_, rfl⟩
          obtain ⟨ws, hwse⟩ : ∃ ws, (run4 ((run4 (bs.take at_)).2 ++ x)).2 = ws := ⟨_, rfl⟩
          rw [htle] at hw hmore htl
          rw [hwse] at hw hmore h33
          obtain ⟨s1, hs1⟩ : ∃ s1 : ByteArray, (⟨tl.toArray⟩ : ByteArray) = s1 := ⟨_, rfl⟩
          have hz1 : s1.size = tl.length := by rw [← hs1]; show tl.toArray.size = _; simp
          have hz1b : s1.size ≤ 1000 := by omega
          have hs1l : s1.data.toList = tl := by rw [← hs1]
          have hw2 := hw.mono (R' := fun e w2 => e = .returned (.tuple #[.string s1, .int .i64 0]) ∧ Dec w2 w.heap.size ws ∧ Chg (· = w.heap.size) wr w2) (fun e w2 ⟨h1, h2, h3⟩ => ⟨h1.trans (by rw [hs1]), h2, h3⟩)
          have hw' := Lib.hid hw2
          have hmore' := Lib.hid hmore
          have hs1' := Lib.hid hs1l
          have hws3 := Lib.hid h33
          have hn1' := Lib.hid hn1
          have hcat : (s ++ s1).data.toList = s.data.toList ++ s1.data.toList := by simp [ByteArray.data_append]
          have hcat' := Lib.hid hcat
          clear hw hw2 hmore hx hxl htl h3 h33 htle hwse hs1 hz1 hs1l hwr hcat
          go_wp2_with fail
          refine hw'.out.mono ?_
          rintro e w2 ⟨rfl, hD2, hC2⟩
          have hB2 := hBW'.out.trans (hC2.below (B := w.heap.size) (fun k hk => by omega) hBW'.out.size)
          have hwt := Lib.hid (waits_any _ _ w2 hD2)
          have hD2' := Lib.hid hD2
          have hB2' := Lib.hid hB2
          clear hD2 hB2 hC2
          obtain ⟨k, hk⟩ : ∃ k, ws.length = k := ⟨_, rfl⟩
          have hk3 : k ≤ 3 := by have := hws3.out; omega
          have hk' := Lib.hid hk
          clear hk
          by_cases hi5 : i ≤ 5000
          · go_wp2_with (first | (go_at_call 24; refine (num_any _ _).mono ?_; rintro e w' ⟨rfl, rfl⟩) | (go_at_call 28; refine hwt.out.mono ?_; rintro e w3 ⟨v3, rfl, hv3, hb3⟩; obtain ⟨A3, c3, rfl, _⟩ := hv3.shape; rw [hk'.out]; have hb3' := Lib.hid hb3; clear hv3 hb3))
            refine ⟨⟨at_ + r, i + 1, s ++ s1, rfl, by go_num, by go_num, by have := hn1'.out; omega, by omega, ?_, ?_, hB2'.out.trans (hb3'.out.mono hB2'.out.size)⟩, by simp [intOf]; omega⟩
            · rw [hcat'.out, hs'.out, hs1'.out, hmore'.out]
            · rw [hmore'.out]; exact hD2'.out.below hb3'.out
          · obtain rfl : i = 5001 := by omega
            have hTB := Lib.hid (hT'.out.below hB2'.out)
            go_wp2_with (first | (go_at_call 24; refine (num_any _ _).mono ?_; rintro e w' ⟨rfl, rfl⟩) | (go_at_call 28; refine hwt.out.mono ?_; rintro e w3 ⟨v3, rfl, hv3, hb3⟩; obtain ⟨A3, c3, rfl, _⟩ := hv3.shape; rw [hk'.out]; have hb3' := Lib.hid hb3; have hwk := Lib.hid (works_any w3 (hTB.out.below hb3)); clear hv3 hb3) | (go_at_call 11; refine hwk.out.mono ?_; rintro e w9 ⟨rfl, hb9⟩))
            go_ret
            exact ⟨rfl, (hB2'.out.trans (hb3'.out.mono hB2'.out.size)).trans (hb9.mono (Nat.le_trans hB2'.out.size hb3'.out.size))⟩
      · have hi1 : decide (i < m2) = false := by simpa using hil
        have hn1 : 1 ≤ m - at_ := by omega
        have hw := hwr 1 hn1
        have hmore := run4_more bs at_ 1
        obtain ⟨x, hx⟩ : ∃ x, (bs.drop at_).take 1 = x := ⟨_, rfl⟩
        have hxl : x.length ≤ 1 := by rw [← hx]; exact List.length_take_le _ _
        rw [hx] at hw hmore
        have htl := run4_len ((run4 (bs.take at_)).2 ++ x)
        rw [List.length_append] at htl
        have h3 := run_three (bs.take at_)
        have h33 := run_three ((run4 (bs.take at_)).2 ++ x)
        obtain ⟨tl, htle⟩ : ∃ tl, (run4 ((run4 (bs.take at_)).2 ++ x)).1 = tl := ⟨_, rfl⟩
        obtain ⟨ws, hwse⟩ : ∃ ws, (run4 ((run4 (bs.take at_)).2 ++ x)).2 = ws := ⟨_, rfl⟩
        rw [htle] at hw hmore htl
        rw [hwse] at hw hmore h33
        obtain ⟨s1, hs1⟩ : ∃ s1 : ByteArray, (⟨tl.toArray⟩ : ByteArray) = s1 := ⟨_, rfl⟩
        have hz1 : s1.size = tl.length := by rw [← hs1]; show tl.toArray.size = _; simp
        have hz1b : s1.size ≤ 1000 := by omega
        have hs1l : s1.data.toList = tl := by rw [← hs1]
        have hw2 := hw.mono (R' := fun e w2 => e = .returned (.tuple #[.string s1, .int .i64 0]) ∧ Dec w2 w.heap.size ws ∧ Chg (· = w.heap.size) wr w2) (fun e w2 ⟨h1, h2, h3⟩ => ⟨h1.trans (by rw [hs1]), h2, h3⟩)
        have hw' := Lib.hid hw2
        have hmore' := Lib.hid hmore
        have hs1' := Lib.hid hs1l
        have hws3 := Lib.hid h33
        have hn1' := Lib.hid hn1
        have hcat : (s ++ s1).data.toList = s.data.toList ++ s1.data.toList := by simp [ByteArray.data_append]
        have hcat' := Lib.hid hcat
        clear hw hw2 hmore hx hxl htl h3 h33 htle hwse hs1 hz1 hs1l hwr hcat
        go_wp2_with fail
        refine hw'.out.mono ?_
        rintro e w2 ⟨rfl, hD2, hC2⟩
        have hB2 := hBW'.out.trans (hC2.below (B := w.heap.size) (fun k hk => by omega) hBW'.out.size)
        have hwt := Lib.hid (waits_any _ _ w2 hD2)
        have hD2' := Lib.hid hD2
        have hB2' := Lib.hid hB2
        clear hD2 hB2 hC2
        obtain ⟨k, hk⟩ : ∃ k, ws.length = k := ⟨_, rfl⟩
        have hk3 : k ≤ 3 := by have := hws3.out; omega
        have hk' := Lib.hid hk
        clear hk
        by_cases hi5 : i ≤ 5000
        · go_wp2_with (first | (go_at_call 24; refine (num_any _ _).mono ?_; rintro e w' ⟨rfl, rfl⟩) | (go_at_call 28; refine hwt.out.mono ?_; rintro e w3 ⟨v3, rfl, hv3, hb3⟩; obtain ⟨A3, c3, rfl, _⟩ := hv3.shape; rw [hk'.out]; have hb3' := Lib.hid hb3; clear hv3 hb3))
          refine ⟨⟨at_ + 1, i + 1, s ++ s1, rfl, by go_num, by go_num, by have := hn1'.out; omega, by omega, ?_, ?_, hB2'.out.trans (hb3'.out.mono hB2'.out.size)⟩, by simp [intOf]; omega⟩
          · rw [hcat'.out, hs'.out, hs1'.out, hmore'.out]
          · rw [hmore'.out]; exact hD2'.out.below hb3'.out
        · obtain rfl : i = 5001 := by omega
          have hTB := Lib.hid (hT'.out.below hB2'.out)
          go_wp2_with (first | (go_at_call 24; refine (num_any _ _).mono ?_; rintro e w' ⟨rfl, rfl⟩) | (go_at_call 28; refine hwt.out.mono ?_; rintro e w3 ⟨v3, rfl, hv3, hb3⟩; obtain ⟨A3, c3, rfl, _⟩ := hv3.shape; rw [hk'.out]; have hb3' := Lib.hid hb3; have hwk := Lib.hid (works_any w3 (hTB.out.below hb3)); clear hv3 hb3) | (go_at_call 11; refine hwk.out.mono ?_; rintro e w9 ⟨rfl, hb9⟩))
          go_ret
          exact ⟨rfl, (hB2'.out.trans (hb3'.out.mono hB2'.out.size)).trans (hb9.mono (Nat.le_trans hB2'.out.size hb3'.out.size))⟩
    · have hme : at_ = m := by omega
      subst hme
      have hbt : bs.take at_ = bs := List.take_of_length_le (by have := hm'.out; omega)
      rw [hbt] at hs' hD'
      have hof := of_run bs
      obtain ⟨t2, ht2⟩ : ∃ t, (if (run4 bs).2 = [] then [] else inst) = t := ⟨_, rfl⟩
      rw [ht2] at hof
      obtain ⟨s2, hs2⟩ : ∃ s2 : ByteArray, (⟨t2.toArray⟩ : ByteArray) = s2 := ⟨_, rfl⟩
      have z2 : s2.size ≤ 10 := by
        have : s2.size = t2.length := by rw [← hs2]; show t2.toArray.size = _; simp
        have h2 : t2.length ≤ 3 := by rw [← ht2]; split <;> simp [inst]
        omega
      have hs2l : s2.data.toList = t2 := by rw [← hs2]
      obtain ⟨sf, hcat⟩ : ∃ sf, s ++ s2 = sf := ⟨_, rfl⟩
      have hsf : sf.data.toList = ofB bs := by rw [← hcat, hof, ← hs'.out, ← hs2l]; simp [ByteArray.data_append]
      have hsfe : (⟨(ofB bs).toArray⟩ : ByteArray) = sf := by rw [← hsf]
      have hsfs : sf.size ≤ 9223372036854775807 := by
        have h1 : sf.data.toList.length = sf.size := by simp only [Array.length_toList]; rfl
        have h2 := ofB_len bs
        have := hm'.out
        rw [hsf] at h1
        omega
      have hsnd : soundB sf.data.toList = true := by rw [hsf]; unfold soundB; rw [decide_eq_true_eq]; exact sound_of bs
      have hend := (end_any _ _ wr hD'.out).mono (R' := fun e w2 => e = .returned (.tuple #[.string s2, .int .i64 0]) ∧ Dec w2 w.heap.size [] ∧ Chg (· = w.heap.size) wr w2) (fun e w2 ⟨h1, h2, h3⟩ => ⟨h1.trans (by rw [ht2, hs2]), h2, h3⟩)
      have hend' := Lib.hid hend
      have hsf' := Lib.hid hsfe
      have hsnd' := Lib.hid hsnd
      clear hend hof ht2 hs2 hs2l hsf hsfe hbt hsnd
      go_wp2_with fail
      refine hend'.out.mono ?_
      rintro e w2 ⟨rfl, hD2, hC2⟩
      have hB2 := hBW'.out.trans (hC2.below (B := w.heap.size) (fun k hk => by omega) hBW'.out.size)
      have hend1 := end_any _ _ w2 hD2
      rw [if_pos rfl] at hend1
      have hend2 := Lib.hid hend1
      have hB2' := Lib.hid hB2
      clear hD2 hC2 hB2 hend1
      go_wp2_with fail
      refine hend2.out.mono ?_
      rintro e w3 ⟨rfl, hD3, hC3⟩
      have hB3 := hB2'.out.trans (hC3.below (B := w.heap.size) (fun k hk => by omega) hB2'.out.size)
      have hT3 := Lib.hid (hT'.out.below hB3)
      have hA3 := Lib.hid ((hA'.out.kept (Kept.below hB3 (fun _ h => h))).mono (S' := (· < w3.heap.size)) (fun b hb => by have hb : b < w.heap.size := hb; have := hB3.size; show b < w3.heap.size; omega))
      have hB3' := Lib.hid hB3
      clear hD3 hC3 hB3
      go_wp2_with (go_at_call 24; refine (num_any _ _).mono ?_; rintro e w' ⟨rfl, rfl⟩)
      refine (of_any bs A at_ cap w3 hm'.out hA3.out hT3.out (by have := hm'.out; omega)).mono ?_
      rintro e w4 ⟨rfl, hb4⟩
      rw [hsf'.out]
      have hB4' := Lib.hid (hB3'.out.trans (hb4.mono hB3'.out.size))
      clear hb4
      go_wp2_with fail
      refine (sound_any sf w4 hsfs (hT'.out.below hB4'.out)).mono ?_
      rw [hsnd'.out]
      rintro e w5 ⟨rfl, hb5⟩
      have hB5' := Lib.hid (hB4'.out.trans (hb5.mono hB4'.out.size))
      clear hb5
      go_wp2_with fail
      refine (works_any w5 (hT'.out.below hB5'.out)).mono ?_
      rintro e w6 ⟨rfl, hb6⟩
      have hB6' := Lib.hid (hB5'.out.trans (hb6.mono hB5'.out.size))
      clear hb6
      go_wp2
      go_ret
      exact ⟨rfl, hB6'.out⟩
end Go.Proofs.YthdmmlaahjgijaaDoor
