import Derived.Test.YthdmmlaahjgijaaDoorC
import Derived.Test.YthdmmlaahjgijaaDoorS
import Derived.BigQuiet
import Derived.Deep.QuietTactic
import Derived.Deep.RegionHeld3
import Derived.Laws.BytesArg
namespace Go.Proofs.YthdmmlaahjgijaaDoor
open Go.RowKit

/-! ## What stands at the beginning of a text -/
def readV (l : List UInt8) : Array Value := #[.int .i64 ((look l).point : Int), .string ⟨(told l).toArray⟩, .int .i64 ((look l).size : Int), .int .i64 ((look l).st : Int)]
theorem byte_lt (c : UInt8) : (c.toNat : Int) < 256 := by have := c.toNat_lt; omega
theorem or_next {p b : Nat} (hp : p < 4294967296) : bits .or .i64 ((p : Int) * 64) ((b : Int) % 64) = ((p * 64 + b % 64 : Nat) : Int) := by
  have h62 : (2 : Int) ^ 62 = 4611686018427387904 := by decide
  have := bits_join .i64 62 (by decide) wraps_i64 6 ((p : Int) * 64) ((b : Int) % 64) (by omega) (by show _ % 64 = 0; omega) (by omega) (by omega) (by show _ < 64; omega) (by omega)
  rw [this]; omega
/-- What a reading rests on, byte by byte. -/
def ReadRel (l : List UInt8) (k j p : Nat) : Prop := 1 ≤ j ∧ j ≤ moreN k + 1 ∧ j ≤ l.length ∧ p < 128 * 64 ^ (j - 1) ∧ look l = goOn k (moreN k + 1 - j) j p (l.drop j)
theorem readRel_start {c : UInt8} {r : List UInt8} {k : Nat} (hk : kOf c.toNat = k) (h9 : k ≠ 9) : ReadRel (c :: r) k 1 (c.toNat - markN k) := by
  refine ⟨Nat.le_refl _, by omega, by simp, ?_, ?_⟩
  · show _ < 128 * 64 ^ 0
    rcases kOf_row hk h9 with ⟨_, h, _, hm⟩ | ⟨_, h, h', _, hm⟩ | ⟨_, _, h, h', _, hm, _⟩ | ⟨_, _, h, h', _, hm, _⟩ <;> rw [hm] <;> omega
  · rw [look, hk, if_neg h9]; rfl
theorem readRel_next {l : List UInt8} {k j p : Nat} (h : ReadRel l k j p) (hj : j ≤ moreN k) (hl : j < l.length) (hb : inR k j l[j].toNat) : ReadRel l k (j + 1) (p * 64 + l[j].toNat % 64) := by
  obtain ⟨h1, h2, h3, h4, h5⟩ := h
  refine ⟨by omega, by omega, by omega, ?_, ?_⟩
  · have : 64 ^ (j + 1 - 1) = 64 ^ (j - 1) * 64 := by rw [← Nat.pow_succ]; congr 1; omega
    rw [this]
    omega
  · rw [h5, List.drop_eq_getElem_cons hl, show moreN k + 1 - j = (moreN k + 1 - (j + 1)) + 1 from by omega, goOn, if_pos hb]
theorem readRel_whole {l : List UInt8} {k p : Nat} (h : ReadRel l k (moreN k + 1) p) : look l = ⟨p, moreN k + 1, 0⟩ := by
  rw [h.2.2.2.2, Nat.sub_self, goOn]
theorem readRel_short {l : List UInt8} {k p : Nat} (h : ReadRel l k l.length p) (hj : l.length ≤ moreN k) : look l = ⟨65533, l.length, 2⟩ := by
  rw [h.2.2.2.2, List.drop_length, show moreN k + 1 - l.length = (moreN k - l.length) + 1 from by omega, goOn]
theorem readRel_broken {l : List UInt8} {k j p : Nat} (h : ReadRel l k j p) (hj : j ≤ moreN k) (hl : j < l.length) (hb : ¬ inR k j l[j].toNat) : look l = ⟨65533, j, 1⟩ := by
  rw [h.2.2.2.2, List.drop_eq_getElem_cons hl, show moreN k + 1 - j = (moreN k - j) + 1 from by omega, goOn, if_neg hb]
theorem readRel_p {l : List UInt8} {k j p : Nat} (h : ReadRel l k j p) : p < 33554432 := by
  have h2 := h.2.1
  have hm := moreN_le k
  have h3 := h.2.2.2.1
  have : 64 ^ (j - 1) ≤ 64 ^ 3 := Nat.pow_le_pow_right (by omega) (by omega)
  have : (64 : Nat) ^ 3 = 262144 := by decide
  omega
def ReadOk (l : List UInt8) (w : World) (e : Ending) (w' : World) : Prop := e = .returned (.agg (readV l)) ∧ Below w.heap.size w w'

/-- Four cells of a block. -/
abbrev Four (W : World) (k : Nat) (a b c d : Value) : Prop := W.cell? ⟨k, 0, none⟩ = some a ∧ W.cell? ⟨k, 1, none⟩ = some b ∧ W.cell? ⟨k, 2, none⟩ = some c ∧ W.cell? ⟨k, 3, none⟩ = some d
theorem Four.below {W W' : World} {k : Nat} {a b c d : Value} (h : Four W k a b c d) (hb : Below W.heap.size W W') (hk : k < W.heap.size) : Four W' k a b c d :=
  ⟨(hb.cell (p := ⟨k, 0, none⟩) hk).trans h.1, (hb.cell (p := ⟨k, 1, none⟩) hk).trans h.2.1, (hb.cell (p := ⟨k, 2, none⟩) hk).trans h.2.2.1, (hb.cell (p := ⟨k, 3, none⟩) hk).trans h.2.2.2⟩
theorem extract_take (s : ByteArray) (n : Nat) : s.extract 0 n = ⟨(s.data.toList.take n).toArray⟩ := by
  have h : (s.extract 0 n).data = (s.data.toList.take n).toArray := by
    rw [ByteArray.data_extract]
    apply Array.ext'
    simp
  cases h2 : s.extract 0 n with
  | mk d => rw [h2] at h; simp only at h; rw [h]
theorem read_close {l : List UInt8} {w W : World} {a b c d : Value} {tmps : Array Value} (h2 : tmps.getD 2 undef = .pointer (some ⟨w.heap.size, 0, none⟩)) (hB : Below w.heap.size w W)
    (hz : Has W w.heap.size 99 #[a, b, c, d]) (hv : readV l = #[a, b, c, d]) : bodyPost Tryd.prog Tryd.f66 (ReadOk l w) .ret { tmps := tmps, defers := [] } W :=
  bodyPost_ret (v := .agg #[a, b, c, d]) (results_cell_row Tryd.results66 tmps W w.heap.size _ _ (0, 0) _ h2 hz Tryd.underlying99 rfl (by kernel_rfl)) rfl ⟨by rw [hv], hB⟩
theorem readV_of {l : List UInt8} {p n s : Nat} (h : look l = ⟨p, n, s⟩) (t : List UInt8) (ht : told l = t) : readV l = #[.int .i64 (p : Int), .string ⟨t.toArray⟩, .int .i64 (n : Int), .int .i64 (s : Int)] := by
  unfold readV; rw [h, ht]
theorem told_inst {l : List UInt8} {p n s : Nat} (h : look l = ⟨p, n, s⟩) (hs : s ≠ 0) : told l = inst := by unfold told; rw [h]; exact if_neg hs
theorem told_take {l : List UInt8} {p n : Nat} (h : look l = ⟨p, n, 0⟩) : told l = l.take n := by unfold told; rw [h]; exact if_pos rfl

set_option maxRecDepth 100000 in
set_option maxHeartbeats 2000000 in
theorem read_any (s : ByteArray) (hm : s.size ≤ 9223372036854775807) (h0 : 0 < s.size) (w : World) (hT : Tab w) : Calls Tryd.prog 66 #[.string s] w (ReadOk s.data.toList w) := by
  have hT1 : Tab (w.alloc (.cells #[.int .i64 0, .string ⟨#[]⟩, .int .i64 0, .int .i64 0] 99)) := hT.below ((Below.refl _ _).alloc (Nat.le_refl _) _)
  have hl : s.data.toList.length = s.size := by simp only [Array.length_toList]; rfl
  obtain ⟨c, hcs⟩ : ∃ c : UInt8, s[0]'h0 = c := ⟨_, rfl⟩
  have hc := leadOf_any c.toNat _ hT1
  obtain ⟨r, hr⟩ : ∃ r, s.data.toList = c :: r := by
    obtain ⟨c', r, hcr⟩ : ∃ c r, s.data.toList = c :: r := by
      cases h : s.data.toList with
      | nil => rw [h] at hl; simp at hl; omega
      | cons c r => exact ⟨c, r, rfl⟩
    refine ⟨r, ?_⟩
    rw [hcr, ← hcs]
    congr 1
    have : s.data.toList[0]'(by omega) = s[0]'h0 := rfl
    rw [← this]
    simp [hcr]
  have hh0 := Lib.hid h0
  by_cases hk9 : kOf c.toNat = 9
  · rw [hk9] at hc
    have hc' := Lib.hid hc
    have hlook : look s.data.toList = ⟨65533, 1, 1⟩ := by rw [hr, look, if_pos hk9]
    have hlook' := Lib.hid hlook
    clear hc hlook hr hk9 hl
    go_enter Tryd.func66, Tryd.ntmps66
    go_wp2
    refine wp_scope_on 0 rfl ?_
    go_wp2_with (go_at_call 73; refine hc'.out.mono ?_; rintro e w1 ⟨rfl, hb1⟩; have hz1 := (Has.new w 99 #[.int .i64 0, .string ⟨#[]⟩, .int .i64 0, .int .i64 0]).below hb1 (by simp); have c0 := hz1.cell 0; have c1 := hz1.cell 1; have c2 := hz1.cell 2; have c3 := hz1.cell 3; have f0 := hz1.free 0; have f1 := hz1.free 1; have f2 := hz1.free 2; have f3 := hz1.free 3; have hlt1 := hz1.lt; have hb1' := Lib.hid hb1; have hz1' := Lib.hid hz1; clear hb1 hz1; unfold zeroRow; rw [if_pos rfl])
    go_step3
    refine ⟨rfl, ?_⟩
    go_wp2
    rw [Exit.noGoto_ret]
    have hB := below_on ((Below.refl w.heap.size w).alloc (Nat.le_refl _) _) hb1'.out
    have hB4 := fun a b c d => below_put4 hB (Nat.le_refl _) a b c d
    refine read_close rfl ((hB4 _ _ _ _).alloc (hB4 _ _ _ _).size _) ((hz1'.out.put4 _ _ _ _).alloc _) ?_
    exact readV_of hlook'.out inst (told_inst hlook'.out (by decide))
  · obtain ⟨k, hk⟩ : ∃ k, kOf c.toNat = k := ⟨_, rfl⟩
    rw [hk] at hc hk9
    have hstart := readRel_start (r := r) hk hk9
    rw [← hr] at hstart
    have hc' := Lib.hid hc
    have hmk : markN k ≤ c.toNat := by
      rcases kOf_row hk hk9 with ⟨_, h, _, hm⟩ | ⟨_, h, h', _, hm⟩ | ⟨_, _, h, h', _, hm, _⟩ | ⟨_, _, h, h', _, hm, _⟩ <;> rw [hm] <;> omega
    have hc256 := byte_lt c
    have hm3 := moreN_le k
    have hsub : (c.toNat : Int) - (markN k : Int) = ((c.toNat - markN k : Nat) : Int) := by omega
    have hs' := Lib.hid hstart
    have hklt : k < 9 := by have := kOf_le c.toNat; omega
    have hk9' := Lib.hid hk9
    have hl' := Lib.hid hl
    clear hc hr hk9 hl hstart hk
    have hrow : rowV k = rowV k := rfl
    conv at hrow => rhs; unfold rowV
    have hrow' := Lib.hid hrow
    clear hrow
    go_enter Tryd.func66, Tryd.ntmps66
    go_wp2
    refine wp_scope_on 0 rfl ?_
    go_wp2_with (go_at_call 73; refine hc'.out.mono ?_; rintro e w1 ⟨rfl, hb1⟩; rw [if_neg hk9'.out, hrow'.out, show decide (k ≠ 9) = true from decide_eq_true hk9'.out]; have hz1 := (Has.new w 99 #[.int .i64 0, .string ⟨#[]⟩, .int .i64 0, .int .i64 0]).below hb1 (by simp); have hb1' := Lib.hid hb1; have hz1' := Lib.hid hz1; clear hb1 hz1)
    go_quiet (fail)
    go_wp2
    have hB1 := (below_on ((Below.refl w.heap.size w).alloc (Nat.le_refl _) (.cells #[.int .i64 0, .string ⟨#[]⟩, .int .i64 0, .int .i64 0] 99)) hb1'.out)
    go_loopw [3, 4, 5] (fun x3 x4 x5 wr => ∃ j p : Nat, x3 = .int .i64 (p : Int) ∧ x4 = .int .i64 (j : Int) ∧ x5 = .int .i64 1 ∧ ReadRel s.data.toList k j p ∧ Below w.heap.size w wr ∧ Has wr w.heap.size 99 #[.int .i64 0, .string ⟨#[]⟩, .int .i64 0, .int .i64 0] ∧ Has wr w1.heap.size 102 (rowV k)) (fun _ x4 _ _ => moreN k + 1 - (intOf x4).toNat)
    case atStart =>
      refine ⟨1, c.toNat - markN k, ?_, rfl, rfl, hs'.out, ?_, ?_, ?_⟩
      · rw [← hsub]
      · exact below_draws (hB1.alloc hB1.size _) _
      · exact (hz1'.out.alloc _).drewN _
      · rw [hrow'.out]; exact (Has.new _ _ _).drewN _
    case round =>
      obtain ⟨j, p, rfl, rfl, rfl, hrel, hb, hz, hx⟩ := hrel
      have hj1 := hrel.1
      have hj2 := hrel.2.1
      have hjl := hrel.2.2.1
      have hp := readRel_p hrel
      rw [hl'.out] at hjl
      have hrel' := Lib.hid hrel
      have hb' := Lib.hid hb
      have hz' := Lib.hid hz
      have hx' := Lib.hid hx
      rw [hrow'.out] at hx
      have e3 := hx.cell 3
      have hlz := hz.lt
      have hlx := hx.lt
      clear hrel hb hz hx
      by_cases hj : j ≤ moreN k
      · by_cases hlen : j < s.size
        · obtain ⟨b, hsb⟩ : ∃ b, s[j]'hlen = b := ⟨_, rfl⟩
          have hlb : ∃ h : j < s.data.toList.length, s.data.toList[j]'h = b := ⟨by rw [hl'.out]; exact hlen, by rw [← hsb]; rfl⟩
          have hlb' := Lib.hid hlb
          have hb256 := byte_lt b
          have hxl := hx'.out
          rw [hrow'.out] at hxl
          have hr0 : Four wr.drew w1.heap.size (.int .i64 (leastN k)) (.int .i64 (mostN k)) (.int .u8 (markN k : Int)) (.int .i64 (moreN k : Int)) := ⟨hxl.cell 0, hxl.cell 1, hxl.cell 2, hxl.cell 3⟩
          clear hxl
          have htk := takes_any k b.toNat j wr.drew hklt hj
          rw [takes_in hklt hj1 hj, hrow'.out] at htk
          have hor := Lib.hid (or_next (p := p) (b := b.toNat) (by omega))
          have hlt0 := (show w1.heap.size < wr.drew.heap.size from hlx)
          clear hlb e3
          by_cases hin : inR k j b.toNat
          · rw [decide_eq_true hin] at htk
            have htk' := Lib.hid htk
            have hin' := Lib.hid hin
            clear htk hin
            have e3 : wr.cell? ⟨w1.heap.size, 3, none⟩ = some (.int .i64 (moreN k : Int)) := hr0.2.2.2
            go_wp2
            go_region_held3 (fun w' => Four w' w1.heap.size (.int .i64 (leastN k)) (.int .i64 (mostN k)) (.int .u8 (markN k : Int)) (.int .i64 (moreN k : Int))) (first | exact hr0 | exact hr2)
              ((go_at_call 74; refine htk'.out.mono ?_; rintro e w2 ⟨rfl, hbw⟩; have hbw' := Lib.hid hbw; have hr2 := hr0.below hbw hlt0; clear hbw))
            go_wp2
            have hbd : Below w.heap.size w wr.drew := below_draws hb'.out 1
            obtain ⟨hlj, hbj⟩ := hlb'.out
            refine ⟨⟨j + 1, p * 64 + b.toNat % 64, by rw [hor.out], by go_num, rfl, ?_, hbd.trans (hbw'.out.mono hbd.size), hz'.out.drew.below hbw'.out hlz, hx'.out.drew.below hbw'.out hlx⟩, by simp [intOf]; omega⟩
            rw [← hbj] at hin' ⊢
            exact readRel_next hrel'.out hj hlj hin'.out
          · rw [decide_eq_false hin] at htk
            have htk' := Lib.hid htk
            have hin' := Lib.hid hin
            clear htk hin
            have e3 : wr.cell? ⟨w1.heap.size, 3, none⟩ = some (.int .i64 (moreN k : Int)) := hr0.2.2.2
            go_wp2
            go_region_held3 (fun w' => Four w' w1.heap.size (.int .i64 (leastN k)) (.int .i64 (mostN k)) (.int .u8 (markN k : Int)) (.int .i64 (moreN k : Int))) (first | exact hr0 | exact hr2)
              ((go_at_call 74; refine htk'.out.mono ?_; rintro e w2 ⟨rfl, hbw⟩; have hbw' := Lib.hid hbw; have hr2 := hr0.below hbw hlt0; clear hbw))
            have hzl := hz'.out.drew.below hbw'.out hlz
            have c0 := hzl.cell 0
            have c1 := hzl.cell 1
            have c2 := hzl.cell 2
            have c3 := hzl.cell 3
            have f0 := hzl.free 0
            have f1 := hzl.free 1
            have f2 := hzl.free 2
            have f3 := hzl.free 3
            have hzl' := Lib.hid hzl
            clear hzl
            go_wp2
            go_step3
            refine ⟨rfl, ?_⟩
            go_wp2
            rw [Exit.noGoto_ret]
            have hbd : Below w.heap.size w wr.drew := below_draws hb'.out 1
            refine read_close rfl (below_put4 (hbd.trans (hbw'.out.mono hbd.size)) (Nat.le_refl _) _ _ _ _) (hzl'.out.put4 _ _ _ _) ?_
            obtain ⟨hlj, hbj⟩ := hlb'.out
            rw [← hbj] at hin'
            have hlk := readRel_broken hrel'.out hj hlj hin'.out
            exact readV_of hlk inst (told_inst hlk (by decide))
        · obtain rfl : j = s.size := by omega
          have hlk := Lib.hid (readRel_short (l := s.data.toList) (by rw [hl'.out]; exact hrel'.out) (by rw [hl'.out]; exact hj))
          have hzl := hz'.out
          have c0 := hzl.cell 0
          have c1 := hzl.cell 1
          have c2 := hzl.cell 2
          have c3 := hzl.cell 3
          have f0 := hzl.free 0
          have f1 := hzl.free 1
          have f2 := hzl.free 2
          have f3 := hzl.free 3
          clear hzl
          go_wp2
          go_step3
          refine ⟨rfl, ?_⟩
          go_wp2
          rw [Exit.noGoto_ret]
          refine read_close rfl (below_put4 hb'.out (Nat.le_refl _) _ _ _ _) (hz'.out.put4 _ _ _ _) ?_
          rw [hl'.out] at hlk
          exact readV_of hlk.out inst (told_inst hlk.out (by decide))
      · obtain rfl : j = moreN k + 1 := by omega
        have hlk := Lib.hid (readRel_whole hrel'.out)
        have hzl := hz'.out
        have c0 := hzl.cell 0
        have c1 := hzl.cell 1
        have c2 := hzl.cell 2
        have c3 := hzl.cell 3
        have f0 := hzl.free 0
        have f1 := hzl.free 1
        have f2 := hzl.free 2
        have f3 := hzl.free 3
        clear hzl
        go_wp2
        rw [jump_ret]
        refine read_close rfl (below_put4 hb'.out (Nat.le_refl _) _ _ _ _) (hz'.out.put4 _ _ _ _) ?_
        rw [readV_of hlk.out _ (told_take hlk.out), extract_take]
        rfl
end Go.Proofs.YthdmmlaahjgijaaDoor
