import Derived.Test.YtcogdfgmmpfkkaaGreatDoorPk2
import Derived.Shelf.Bits.Mul64
import Derived.Test.YtcogdfgmmpfkkaaGreatDoorProg
import Derived.Test.YtcogdfgmmpfkkaaGreatDoorRows
import Derived.Lib.Hide
import Derived.WalkKit
import Derived.WalkSpells
import Derived.WalkLawsBesides
namespace Go.Proofs.YtcogdfgmmpfkkaaGreatDoor
open Go.RowKit
attribute [local go_sem] Oper.semAt_some

/-! ## The document's at, part, between -/
theorem byte_eq2 (s : List UInt8) {i : Nat} (h : i < s.length) (k : UInt8) : ((((⟨s.toArray⟩ : ByteArray)[i]'h).toNat : Int) == (k.toNat : Int)) = (s[i] == k) := byte_eq s h k _ rfl
set_option maxRecDepth 100000 in
set_option maxHeartbeats 1000000 in
theorem refAt_any (s : List UInt8) (c : UInt8) (w : World) (hs : s.length ≤ 1000000) : Calls Tryz.prog 27 #[.string ⟨s.toArray⟩, .int .u8 (c.toNat : Int)] w fun e w' => e = .returned (.int .i64 (atL c s : Int)) ∧ w' = w := by
  go_enter Tryz.func27, Tryz.ntmps27
  go_wp2
  go_loopw [5] (fun x W => ∃ i : Nat, i ≤ s.length ∧ x = .int .i64 (i : Int) ∧ atL c s = i + atL c (s.drop i) ∧ W = w) (fun x _ => s.length - (intOf x).toNat)
  case atStart => exact ⟨0, Nat.zero_le _, rfl, by simp, rfl⟩
  case round =>
    obtain ⟨i, hil, rfl, hat, rfl⟩ := hrel
    by_cases hlt : i < s.length
    · have hltI : (i : Int) < (s.length : Int) := by omega
      have e := byte_eq2 s hlt c
      rw [drop_at s hlt] at hat
      by_cases hc : s[i] = c
      · have hat' := Lib.hid (show atL c s = i by rw [hat, atL, if_pos hc]; rfl)
        rw [beq_iff_eq.2 hc] at e
        clear hat hc
        go_wp2
        go_ret
        exact ⟨by rw [hat'.out]; rfl, rfl⟩
      · have hat' := Lib.hid (show atL c s = (i + 1) + atL c (s.drop (i + 1)) by rw [hat, atL, if_neg hc]; omega)
        rw [beq_eq_false_iff_ne.2 hc] at e
        clear hat hc
        go_wp2
        exact ⟨⟨i + 1, by omega, by go_num, hat'.out, trivial⟩, by simp [intOf]; omega⟩
    · obtain rfl : i = s.length := by omega
      have hat' := Lib.hid (show atL c s = s.length by rw [hat, List.drop_of_length_le (Nat.le_refl _)]; rfl)
      clear hat
      go_wp2
      go_ret
      exact ⟨by rw [hat'.out]; rfl, rfl⟩
theorem part_not (l : List UInt8) (h1 : l ≠ [46]) (h2 : l ≠ [46, 46]) : partB l = l.all fun c => decide (c ≠ 47) && decide (c ≠ 0) := by unfold partB; simp [h1, h2]
set_option maxRecDepth 100000 in
set_option maxHeartbeats 1000000 in
theorem refPart_any (s : List UInt8) (w : World) (hs : s.length ≤ 1000000) : Calls Tryz.prog 29 #[.string ⟨s.toArray⟩] w fun e w' => e = .returned (.bool (partB s)) ∧ w' = w := by
  by_cases h1 : s = [46]
  · subst h1
    go_enter Tryz.func29, Tryz.ntmps29
    go_wp2
    go_ret
    exact ⟨rfl, rfl⟩
  by_cases h2 : s = [46, 46]
  · subst h2
    go_enter Tryz.func29, Tryz.ntmps29
    go_wp2
    go_ret
    exact ⟨rfl, rfl⟩
  rw [part_not s h1 h2]
  have e1 : (s == [46]) = false := beq_eq_false_iff_ne.2 h1
  have e2 : (s == [46, 46]) = false := beq_eq_false_iff_ne.2 h2
  clear h1 h2
  go_enter Tryz.func29, Tryz.ntmps29
  go_wp2
  go_loopw [3] (fun x W => ∃ i : Nat, i ≤ s.length ∧ x = .int .i64 (i : Int) ∧ (s.all fun c => decide (c ≠ 47) && decide (c ≠ 0)) = ((s.drop i).all fun c => decide (c ≠ 47) && decide (c ≠ 0)) ∧ W = w) (fun x _ => s.length - (intOf x).toNat)
  case atStart => exact ⟨0, Nat.zero_le _, rfl, by simp, rfl⟩
  case round =>
    obtain ⟨i, hil, rfl, hat, rfl⟩ := hrel
    by_cases hlt : i < s.length
    · have hltI : (i : Int) < (s.length : Int) := by omega
      have e47 := byte_eq s hlt 47 47 rfl
      have e0 := byte_eq s hlt 0 0 rfl
      rw [drop_at s hlt, List.all_cons] at hat
      by_cases hc : s[i] = 47
      · have hat' := Lib.hid (hat.trans (show _ = false by rw [hc]; rfl))
        rw [beq_iff_eq.2 hc] at e47
        clear hat hc e0
        go_wp2
        go_ret
        exact ⟨by rw [hat'.out]; rfl, rfl⟩
      · by_cases hz : s[i] = 0
        · have hat' := Lib.hid (hat.trans (show _ = false by rw [hz]; rfl))
          rw [beq_eq_false_iff_ne.2 hc] at e47
          rw [beq_iff_eq.2 hz] at e0
          clear hat hc hz
          go_wp2
          go_ret
          exact ⟨by rw [hat'.out]; rfl, rfl⟩
        · have hat' := Lib.hid (hat.trans (show _ = (s.drop (i + 1)).all fun c => decide (c ≠ 47) && decide (c ≠ 0) by simp [hc, hz]))
          rw [beq_eq_false_iff_ne.2 hc] at e47
          rw [beq_eq_false_iff_ne.2 hz] at e0
          clear hat hc hz
          go_wp2
          exact ⟨⟨i + 1, by omega, by go_num, hat'.out, trivial⟩, by simp [intOf]; omega⟩
    · obtain rfl : i = s.length := by omega
      have hat' := Lib.hid (hat.trans (show _ = true by rw [List.drop_of_length_le (Nat.le_refl _)]; rfl))
      clear hat
      go_wp2
      go_ret
      exact ⟨by rw [hat'.out]; rfl, rfl⟩
theorem betw_parts (k : UInt8) : ∀ l, betw k l = partsG k l
  | [] => rfl
  | b :: r => by
    unfold betw partsG
    rw [betw_parts k r]
    split
    · rfl
    · cases partsG k r <;> rfl
theorem betw_all {k : UInt8} {l : List UInt8} {p : List UInt8} (h : p ∈ betw k l) : p.length ≤ l.length := by
  induction l generalizing p with
  | nil =>
    obtain rfl : p = [] := by simpa [betw] using h
    exact Nat.le_refl _
  | cons b r ih =>
    unfold betw at h
    rw [List.length_cons]
    split at h
    · rcases List.mem_cons.1 h with rfl | h
      · simp
      · have := ih h; omega
    · cases hb : betw k r with
      | nil =>
        rw [hb] at h
        obtain rfl : p = [b] := by simpa using h
        simp
      | cons x t =>
        rw [hb] at h ih
        rcases List.mem_cons.1 h with rfl | h
        · have := ih (p := x) List.mem_cons_self; simp; omega
        · have := ih (p := p) (List.mem_cons_of_mem _ h); omega
set_option maxRecDepth 100000 in
set_option maxHeartbeats 4000000 in
theorem refBetween_any (l : List UInt8) (c : UInt8) (w : World) (hl : l.length ≤ 100000) : Calls Tryz.prog 28 #[.string ⟨l.toArray⟩, .int .u8 (c.toNat : Int)] w (StrsR (betw c l) w) := by
  unfold StrsR
  rw [betw_parts]
  go_enter Tryz.func28, Tryz.ntmps28
  go_wp2
  go_loopw [5, 6, 7] (fun v f x W => ∃ (done : List (List UInt8)) (fr k : Nat), f = .int .i64 (fr : Int) ∧ x = .int .i64 (k : Int) ∧ k ≤ l.length + 1 ∧ fr ≤ l.length + 1 ∧ PartQ c l done fr k ∧ Strs W w.heap.size v done ∧ Below w.heap.size w W) (fun _ _ x _ => l.length + 1 - (intOf x).toNat)
  case atStart => exact ⟨[], 0, 0, rfl, rfl, Nat.zero_le _, Nat.zero_le _, .inl ⟨Nat.zero_le _, PartS.start c l⟩, strs_nil _ _, Below.refl _ _⟩
  case round =>
    obtain ⟨done, fr, k, rfl, rfl, hk, hfr, hq, hst, hb⟩ := hrel
    obtain ⟨A3, g3, c3, cur3, hv3, _⟩ := hst.shape
    have hfew := hq.few
    obtain ⟨n3, hn3⟩ : ∃ n3, done.length = n3 := ⟨_, rfl⟩
    rw [hn3] at hv3 hfew
    subst hv3
    have hn3' := Lib.hid hn3
    have hq' := Lib.hid hq
    have hst' := Lib.hid hst
    have hb' := Lib.hid hb
    clear hn3 hq hst hb
    by_cases hle : k ≤ l.length
    · have hleI : (k : Int) ≤ (l.length : Int) := by omega
      have hP := Lib.hid (show PartS c l done fr k from hq'.out.elim (fun h => h.2) (fun h => by omega))
      have hfk := hP.out.le
      have hfkI : (fr : Int) ≤ (k : Int) := by omega
      have hx1 := exE1 l fr k
      obtain ⟨t, ht⟩ : ∃ t, (l.drop fr).take (k - fr) = t := ⟨_, rfl⟩
      rw [ht] at hx1
      have hz3 := hb'.out.size
      have hal := Lib.hid (((Below.refl wr.heap.size wr).alloc (Nat.le_refl _) (.cells #[.string ⟨t.toArray⟩] 9)))
      have hnew := Lib.hid (Has.new wr 9 #[.string ⟨t.toArray⟩])
      have hst2 := Lib.hid (hst'.out.below hal.out)
      have hcase : (k = l.length ∧ PartQ c l (done ++ [t]) (k + 1) (k + 1)) ∨ (∃ hlt : k < l.length, l[k] = c ∧ PartQ c l (done ++ [t]) (k + 1) (k + 1)) ∨ (∃ hlt : k < l.length, l[k] ≠ c ∧ PartQ c l done fr (k + 1)) := by
        by_cases heq : k = l.length
        · refine .inl ⟨heq, .inr ⟨by omega, ?_⟩⟩
          subst heq
          rw [hP.out.end, ← ht, List.take_of_length_le (by simp)]
        · have hlt : k < l.length := by omega
          by_cases hc : l[k] = c
          · exact .inr (.inl ⟨hlt, hc, .inl ⟨by omega, by rw [← ht]; exact hP.out.cut hlt hc⟩⟩)
          · exact .inr (.inr ⟨hlt, hc, .inl ⟨by omega, hP.out.next hlt hc⟩⟩)
      clear ht
      rcases hcase with ⟨heq, hnx⟩ | ⟨hlt, hc, hnx⟩ | ⟨hlt, hc, hnx⟩
      · subst heq
        have hnl : ¬ (l.length : Int) < (l.length : Int) := by omega
        have hnx' := Lib.hid hnx
        clear hnx
        go_wp2_with (at_builtin; refine wpList_append_str rfl _ _ rfl rfl hst2.out _ t rfl hnew.out (by rw [hn3'.out]; omega) (by simp; omega) ?_; intro v4 w4 ho4 hg4; have ho4' := Lib.hid ho4; have hg4' := Lib.hid hg4; clear ho4 hg4)
        exact ⟨⟨done ++ [t], l.length + 1, l.length + 1, by go_num, by go_num, by omega, by omega, hnx'.out, ho4'.out, ((hb'.out.trans (hal.out.mono hz3)).grown hg4'.out (by simp; omega) (fun g e => (hst2.out.own g e).1))⟩, by simp [intOf]⟩
      · have hltI : (k : Int) < (l.length : Int) := by omega
        have hce := byte_eq2 l hlt c
        rw [beq_iff_eq.2 hc] at hce
        have hnx' := Lib.hid hnx
        clear hnx hc
        go_wp2_with (at_builtin; refine wpList_append_str rfl _ _ rfl rfl hst2.out _ t rfl hnew.out (by rw [hn3'.out]; omega) (by simp; omega) ?_; intro v4 w4 ho4 hg4; have ho4' := Lib.hid ho4; have hg4' := Lib.hid hg4; clear ho4 hg4)
        exact ⟨⟨done ++ [t], k + 1, k + 1, by go_num, by go_num, by omega, by omega, hnx'.out, ho4'.out, ((hb'.out.trans (hal.out.mono hz3)).grown hg4'.out (by simp; omega) (fun g e => (hst2.out.own g e).1))⟩, by simp [intOf]; omega⟩
      · have hltI : (k : Int) < (l.length : Int) := by omega
        have hce := byte_eq2 l hlt c
        rw [beq_eq_false_iff_ne.2 hc] at hce
        have hnx' := Lib.hid hnx
        clear hnx hc
        go_wp2_with fail
        exact ⟨⟨done, fr, k + 1, rfl, by go_num, by omega, hfr, hnx'.out, hst'.out, hb'.out⟩, by simp [intOf]; omega⟩
    · have hgt : decide ((k : Int) ≤ (l.length : Int)) = false := decide_eq_false (by omega)
      have hgt2 : decide (k ≤ l.length) = false := decide_eq_false hle
      have hd := Lib.hid (show done = partsG c l from hq'.out.elim (fun h => absurd h.1 hle) (fun h => h.2))
      go_wp2_with fail
      go_ret
      exact ⟨_, rfl, by rw [← hd.out]; exact hst'.out, hb'.out⟩
end Go.Proofs.YtcogdfgmmpfkkaaGreatDoor

namespace Go.Proofs.YtcogdfgmmpfkkaaGreatDoor
open Go.RowKit
attribute [local go_sem] Oper.semAt_some

/-! ## Targets in memory; the document's pair -/
/-- Texts from an address on. -/
def Txs (W : World) (A : Option Addr) (ls : List (List UInt8)) : Prop := 0 < ls.length → ∃ b o, A = some ⟨b, o, none⟩ ∧ b < W.heap.size ∧ ∀ (i : Nat) (x : List UInt8), ls[i]? = some x → W.cell? ⟨b, o + i, none⟩ = some (.string ⟨x.toArray⟩)
/-- Pairs from an address on. -/
def Prs (W : World) (A : Option Addr) (qs : List PairL) : Prop := 0 < qs.length → ∃ b o, A = some ⟨b, o, none⟩ ∧ b < W.heap.size ∧ ∀ (i : Nat) (q : PairL), qs[i]? = some q → W.cell? ⟨b, o + i * 2, none⟩ = some (.string ⟨q.1.toArray⟩) ∧ W.cell? ⟨b, o + i * 2 + 1, none⟩ = some (.string ⟨q.2.toArray⟩)
theorem Txs.below {w W : World} {A : Option Addr} {ls : List (List UInt8)} (h : Txs w A ls) (hb : Below w.heap.size w W) : Txs W A ls := fun h0 => by
  obtain ⟨b, o, rfl, hlt, hc⟩ := h h0
  exact ⟨b, o, rfl, Nat.lt_of_lt_of_le hlt hb.size, fun i x hx => (World.cell?_of_block (hb.block b hlt)).trans (hc i x hx)⟩
theorem Prs.below {w W : World} {A : Option Addr} {qs : List PairL} (h : Prs w A qs) (hb : Below w.heap.size w W) : Prs W A qs := fun h0 => by
  obtain ⟨b, o, rfl, hlt, hc⟩ := h h0
  refine ⟨b, o, rfl, Nat.lt_of_lt_of_le hlt hb.size, fun i x hx => ?_⟩
  obtain ⟨h1, h2⟩ := hc i x hx
  exact ⟨(World.cell?_of_block (hb.block b hlt)).trans h1, (World.cell?_of_block (hb.block b hlt)).trans h2⟩
/-- A target as a value. -/
def TgV (W : World) (v : Value) (t : TgL) : Prop := ∃ A1 c1 A2 c2, v = .agg #[.slice A1 t.1.length c1, .slice A2 t.2.length c2] ∧ Txs W A1 t.1 ∧ Prs W A2 t.2
theorem TgV.below {w W : World} {v : Value} {t : TgL} (h : TgV w v t) (hb : Below w.heap.size w W) : TgV W v t := by
  obtain ⟨A1, c1, A2, c2, rfl, h1, h2⟩ := h
  exact ⟨A1, c1, A2, c2, rfl, h1.below hb, h2.below hb⟩
def pairV (o : Option PairL) : Value := match o with
  | some q => .tuple #[.agg #[.string ⟨q.1.toArray⟩, .string ⟨q.2.toArray⟩], .int .i64 0]
  | none => .tuple #[.agg #[.string ⟨#[]⟩, .string ⟨#[]⟩], .int .i64 210]
def PairR (o : Option PairL) (w : World) (e : Ending) (w' : World) : Prop := e = .returned (pairV o) ∧ Below w.heap.size w w'
theorem cut_to (s : List UInt8) (n : Nat) : (⟨s.toArray⟩ : ByteArray).extract 0 n = ⟨(s.take n).toArray⟩ := by rw [cut_str, List.drop_zero]
theorem cut_from (s : List UInt8) (n : Nat) : (⟨s.toArray⟩ : ByteArray).extract n s.length = ⟨(s.drop n).toArray⟩ := by rw [cut_str, List.take_length]
set_option maxRecDepth 100000 in
set_option maxHeartbeats 4000000 in
theorem refPair_any (s : List UInt8) (w : World) (hs : s.length ≤ 1000000) : Calls Tryz.prog 30 #[.string ⟨s.toArray⟩] w (PairR (pairL s) w) := by
  unfold PairR pairL
  have h0 := Lib.hid (fun W => show Calls Tryz.prog 27 #[.string ⟨s.toArray⟩, .int .u8 61] W fun e w' => e = .returned (.int .i64 (atL 61 s : Int)) ∧ w' = W from refAt_any s 61 W hs)
  have hle := atL_le 61 s
  generalize atL 61 s = n at *
  have h1 := Lib.hid (fun W => show Calls Tryz.prog 12 #[.string ((⟨s.toArray⟩ : ByteArray).extract 0 n), .bool true] W (DecR (decL true (s.take n)) W) by rw [cut_to]; exact refDecode_any true (s.take n) W (by simp; omega))
  rcases Nat.lt_or_ge n s.length with hlt | hge
  · have hnI : (n : Int) + 1 ≤ (s.length : Int) := by omega
    have h2 := Lib.hid (fun W => show Calls Tryz.prog 12 #[.string ((⟨s.toArray⟩ : ByteArray).extract (n + 1) s.length), .bool true] W (DecR (decL true (s.drop (n + 1))) W) by rw [cut_from]; exact refDecode_any true _ W (by simp; omega))
    have hleI : (n : Int) ≤ (s.length : Int) := by omega
    unfold DecR at h1 h2
    have hal := Lib.hid ((Below.refl w.heap.size w).alloc (Nat.le_refl _) (.cells #[.string ⟨#[]⟩, .string ⟨#[]⟩] 46))
    have hnew := Lib.hid (Has.new w 46 #[.string ⟨#[]⟩, .string ⟨#[]⟩])
    have hz1 : (w.alloc (.cells #[.string ⟨#[]⟩, .string ⟨#[]⟩] 46)).heap.size = w.heap.size + 1 := by simp
    generalize hd1 : decL true (s.take n) = d1 at *
    generalize hd2 : decL true (s.drop (n + 1)) = d2 at *
    clear hd1 hd2
    cases d1 <;> cases d2 <;> simp only [decV] at h1 h2
    all_goals
      go_enter Tryz.func30, Tryz.ntmps30
      go_wp2_with (first
        | (go_at_call 27; (with_reducible refine Calls.mono (h0.out _) ?_); rintro e w7 ⟨rfl, hw7⟩; obtain rfl := hw7.symm)
        | (go_at_call 12; (with_reducible refine Calls.mono (h1.out _) ?_); rintro e w2 ⟨rfl, hb2⟩; have hB2 := Lib.hid (hal.out.trans (hb2.mono (by omega))); have hn2 := Lib.hid (hnew.out.below hb2 hnew.out.lt); have hz2 := hb2.size; clear hb2)
        | (go_at_call 12; (with_reducible refine Calls.mono (h2.out _) ?_); rintro e w3 ⟨rfl, hb3⟩; have hB3 := Lib.hid (hB2.out.trans (hb3.mono (by omega))); have hn3 := (hn2.out.below hb3 hn2.out.lt); have c0 := hn3.cell 0; have c1 := hn3.cell 1; have f0 := hn3.free 0; have f1 := hn3.free 1; have hn3' := Lib.hid hn3; clear hb3 hn3))
      have y0 : ∀ a b, ((w3.setCell ⟨w.heap.size, 0, none⟩ a).setCell ⟨w.heap.size, 1, none⟩ b).cell? ⟨w.heap.size, 0, none⟩ = some a := fun a b => ((hn3'.out.put 0 a).put 1 b).cell 0
      have y1 : ∀ a b, ((w3.setCell ⟨w.heap.size, 0, none⟩ a).setCell ⟨w.heap.size, 1, none⟩ b).cell? ⟨w.heap.size, 1, none⟩ = some b := fun a b => ((hn3'.out.put 0 a).put 1 b).cell 1
      refine bodyPost_ret (v := _) (by simp only [results, Tryz.results30]; simp [go_sem, y0, y1]; rfl) rfl ⟨rfl, (hB3.out.setCell (p := ⟨w.heap.size, 0, none⟩) (Nat.le_refl _) _).setCell (p := ⟨w.heap.size, 1, none⟩) (Nat.le_refl _) _⟩
  · have hnI : ¬ (n : Int) + 1 ≤ (s.length : Int) := by omega
    have h2 := Lib.hid (fun W => show Calls Tryz.prog 12 #[.string ByteArray.empty, .bool true] W (DecR (decL true (s.drop (n + 1))) W) by rw [List.drop_of_length_le (by omega)]; exact refDecode_any true [] W (by simp))
    have hleI : (n : Int) ≤ (s.length : Int) := by omega
    unfold DecR at h1 h2
    have hal := Lib.hid ((Below.refl w.heap.size w).alloc (Nat.le_refl _) (.cells #[.string ⟨#[]⟩, .string ⟨#[]⟩] 46))
    have hnew := Lib.hid (Has.new w 46 #[.string ⟨#[]⟩, .string ⟨#[]⟩])
    have hz1 : (w.alloc (.cells #[.string ⟨#[]⟩, .string ⟨#[]⟩] 46)).heap.size = w.heap.size + 1 := by simp
    generalize hd1 : decL true (s.take n) = d1 at *
    generalize hd2 : decL true (s.drop (n + 1)) = d2 at *
    clear hd1 hd2
    cases d1 <;> cases d2 <;> simp only [decV] at h1 h2
    all_goals
      go_enter Tryz.func30, Tryz.ntmps30
      go_wp2_with (first
        | (go_at_call 27; (with_reducible refine Calls.mono (h0.out _) ?_); rintro e w7 ⟨rfl, hw7⟩; obtain rfl := hw7.symm)
        | (go_at_call 12; (with_reducible refine Calls.mono (h1.out _) ?_); rintro e w2 ⟨rfl, hb2⟩; have hB2 := Lib.hid (hal.out.trans (hb2.mono (by omega))); have hn2 := Lib.hid (hnew.out.below hb2 hnew.out.lt); have hz2 := hb2.size; clear hb2)
        | (go_at_call 12; (with_reducible refine Calls.mono (h2.out _) ?_); rintro e w3 ⟨rfl, hb3⟩; have hB3 := Lib.hid (hB2.out.trans (hb3.mono (by omega))); have hn3 := (hn2.out.below hb3 hn2.out.lt); have c0 := hn3.cell 0; have c1 := hn3.cell 1; have f0 := hn3.free 0; have f1 := hn3.free 1; have hn3' := Lib.hid hn3; clear hb3 hn3))
      have y0 : ∀ a b, ((w3.setCell ⟨w.heap.size, 0, none⟩ a).setCell ⟨w.heap.size, 1, none⟩ b).cell? ⟨w.heap.size, 0, none⟩ = some a := fun a b => ((hn3'.out.put 0 a).put 1 b).cell 0
      have y1 : ∀ a b, ((w3.setCell ⟨w.heap.size, 0, none⟩ a).setCell ⟨w.heap.size, 1, none⟩ b).cell? ⟨w.heap.size, 1, none⟩ = some b := fun a b => ((hn3'.out.put 0 a).put 1 b).cell 1
      refine bodyPost_ret (v := _) (by simp only [results, Tryz.results30]; simp [go_sem, y0, y1]; rfl) rfl ⟨rfl, (hB3.out.setCell (p := ⟨w.heap.size, 0, none⟩) (Nat.le_refl _) _).setCell (p := ⟨w.heap.size, 1, none⟩) (Nat.le_refl _) _⟩
end Go.Proofs.YtcogdfgmmpfkkaaGreatDoor

namespace Go.Proofs.YtcogdfgmmpfkkaaGreatDoor
open Go.RowKit
attribute [local go_sem] Oper.semAt_some

/-! ## The document's Parse: what it rests on -/
theorem Grew.refl (g : Nat) (w : World) : Grew g w w := ⟨rfl, rfl, rfl, Nat.le_refl _, fun _ _ _ => rfl⟩
theorem Grew.trans {g : Nat} {a b c : World} (h : Grew g a b) (k : Grew g b c) : Grew g a c := ⟨k.os.trans h.os, k.tape.trans h.tape, k.output.trans h.output, Nat.le_trans h.size k.size, fun i hi hg => (k.block i (Nat.lt_of_lt_of_le hi h.size) hg).trans (h.block i hi hg)⟩
theorem Grew.of_below {g : Nat} {w w' : World} (h : Below w.heap.size w w') : Grew g w w' := ⟨h.os, h.tape, h.output, h.size, fun k hk _ => h.block k hk⟩
theorem Grew.alloc {g : Nat} {w W : World} (h : Grew g w W) (o : Obj) : Grew g w (W.alloc o) := h.trans (Grew.of_below ((Below.refl W.heap.size W).alloc (Nat.le_refl _) o))
theorem Grew.grown {g : Nat} {w W W' : World} (h : Grew g w W) {ob : Option Nat} (hg : W.grownBy W' ob) (hv : ∀ k, ob = some k → w.heap.size ≤ k) : Grew g w W' :=
  ⟨hg.os.trans h.os, hg.tape.trans h.tape, hg.output.trans h.output, Nat.le_trans h.size hg.size, fun k hk hne => (hg.block k (Nat.lt_of_lt_of_le hk h.size) (fun e => by have := hv k e.symm; omega)).trans (h.block k hk hne)⟩
theorem Grew.setT {g : Nat} {w W : World} (h : Grew g w W) (i : Nat) (u : Value) : Grew g w (W.setCell ⟨g, i, none⟩ u) :=
  h.trans ⟨rfl, rfl, rfl, by simp [World.setCell], fun k _ hk => Below.heap_setCell W ⟨g, i, none⟩ u k hk⟩
theorem Grew.has {g k : Nat} {w W : World} {t : TypeId} {cs : Array Value} (h : Grew g w W) (hh : Has w k t cs) (hk : k ≠ g) : Has W k t cs := (h.block k hh.lt hk).trans hh
theorem Txs.grew {g : Nat} {w W : World} {A : Option Addr} {ls : List (List UInt8)} (h : Txs w A ls) (hb : Grew g w W) (hA : ∀ b o, A = some ⟨b, o, none⟩ → b ≠ g) : Txs W A ls := fun h0 => by
  obtain ⟨b, o, rfl, hlt, hc⟩ := h h0
  exact ⟨b, o, rfl, Nat.lt_of_lt_of_le hlt hb.size, fun i x hx => (World.cell?_of_block (hb.block b hlt (hA b o rfl))).trans (hc i x hx)⟩
theorem Strs.txs {W : World} {n0 : Nat} {v : Value} {l : List (List UInt8)} (h : Strs W n0 v l) : ∃ A c, v = .slice A l.length c ∧ Txs W A l ∧ ∀ b o, A = some ⟨b, o, none⟩ → n0 ≤ b := by
  obtain ⟨A, g, c, cur, rfl, h1, h2⟩ := h.shape
  rcases Nat.eq_zero_or_pos l.length with h0 | h0
  · rcases h.2 with ⟨hv, _⟩ | ⟨g', c', _, hv, hb, _⟩
    · injection hv with hv _ _
      subst hv
      exact ⟨none, c, rfl, fun h => by omega, fun b o e => by cases e⟩
    · injection hv with hv _ _
      subst hv
      exact ⟨_, c, rfl, fun h => by omega, fun b o e => by injection e with e; injection e with e; omega⟩
  · obtain ⟨rfl, hb, hh⟩ := h1 h0
    refine ⟨_, c, rfl, fun _ => ⟨g, 0, rfl, hh.lt, fun i x hx => ?_⟩, fun b o e => by injection e with e; injection e with e; omega⟩
    rw [Nat.zero_add, hh.cell]
    exact h2 i x hx
theorem Strs.kept {W W' : World} {n0 : Nat} {v : Value} {l : List (List UInt8)} (h : Strs W n0 v l) (k : ∀ g, v.ownBlock = some g → W'.heap[g]? = W.heap[g]?) : Strs W' n0 v l := by
  refine ⟨h.1, ?_⟩
  rcases h.2 with h | ⟨g, cap, cur, rfl, hb, hg, r⟩
  · exact .inl h
  · exact .inr ⟨g, cap, cur, rfl, hb, (k g rfl).trans hg, r⟩
theorem Strs.grew {g : Nat} {W W' : World} {n0 : Nat} {v : Value} {l : List (List UInt8)} (h : Strs W n0 v l) (hb : Grew g W W') (hg : g < n0) : Strs W' n0 v l :=
  h.kept fun k e => by
    obtain ⟨h1, _, h2⟩ := h.own k e
    exact hb.block k h2.lt (by omega)
/-! ### A list of pairs of one's own -/
def prsC (l : List PairL) : List Value := l.flatMap fun q => [.string ⟨q.1.toArray⟩, .string ⟨q.2.toArray⟩]
theorem prsC_append (l m : List PairL) : prsC (l ++ m) = prsC l ++ prsC m := by simp [prsC]
theorem prsC_one (l : List PairL) : ∀ u ∈ prsC l, u.oneCell' = true := by
  intro u hu
  obtain ⟨x, _, hu⟩ := List.mem_flatMap.1 hu
  simp only [List.mem_cons, List.not_mem_nil, or_false] at hu
  rcases hu with rfl | rfl <;> rfl
theorem prsC_get : ∀ (l : List PairL) (i : Nat) (q : PairL), l[i]? = some q → (prsC l)[i * 2]? = some (.string ⟨q.1.toArray⟩) ∧ (prsC l)[i * 2 + 1]? = some (.string ⟨q.2.toArray⟩)
  | [], i, x, h => by simp at h
  | y :: l, 0, x, h => by
    obtain rfl : y = x := by simpa using h
    exact ⟨rfl, rfl⟩
  | y :: l, i + 1, x, h => by
    have := prsC_get l i x (by simpa using h)
    have e : ∀ n, (prsC (y :: l))[n + 1 + 1]? = (prsC l)[n]? := fun n => rfl
    rw [show (i + 1) * 2 = i * 2 + 1 + 1 by omega, show i * 2 + 1 + 1 + 1 = (i * 2 + 1) + 1 + 1 by omega, e, e]
    exact this
def PrsO (W : World) (n0 : Nat) (v : Value) (l : List PairL) : Prop := W.ownsRow n0 46 2 v l.length (prsC l)
theorem prsO_nil (W : World) (n0 : Nat) : PrsO W n0 (.slice none 0 0) [] := ⟨rfl, .inl ⟨rfl, rfl⟩⟩
section
variable {W W' : World} {n0 : Nat} {v : Value} {l : List PairL}
theorem PrsO.prs (h : PrsO W n0 v l) : ∃ A c, v = .slice A l.length c ∧ Prs W A l := by
  have hh := h
  rcases h.2 with ⟨rfl, h0⟩ | ⟨g, cap, cur, rfl, hb, hg, _⟩
  · exact ⟨none, 0, by rw [h0], fun hl => by omega⟩
  · refine ⟨_, cap, rfl, fun _ => ⟨g, 0, rfl, (Array.getElem?_eq_some_iff.1 hg).1, fun i x hx => ?_⟩⟩
    have c := fun j u hu => World.ownsRow.cells (g := g) hh rfl j u hu
    simp only [add_zero_] at c
    obtain ⟨h1, h2⟩ := prsC_get l i x hx
    exact ⟨c _ _ h1, by have := c _ _ h2; rwa [← Nat.add_assoc] at this⟩
theorem PrsO.own (h : PrsO W n0 v l) : ∀ g, v.ownBlock = some g → n0 ≤ g ∧ ∃ cs, Has W g 46 cs := by
  intro g hg
  rcases h.2 with ⟨rfl, _⟩ | ⟨g', cap, cur, rfl, hb, hh, r⟩
  · cases hg
  · obtain rfl : g' = g := by simpa [Value.ownBlock] using hg
    exact ⟨hb, cur, hh⟩
theorem PrsO.kept (h : PrsO W n0 v l) (k : ∀ g, v.ownBlock = some g → W'.heap[g]? = W.heap[g]?) : PrsO W' n0 v l := by
  refine ⟨h.1, ?_⟩
  rcases h.2 with h | ⟨g, cap, cur, rfl, hb, hg, r⟩
  · exact .inl h
  · exact .inr ⟨g, cap, cur, rfl, hb, (k g rfl).trans hg, r⟩
theorem PrsO.below (h : PrsO W n0 v l) (hb : Below W.heap.size W W') : PrsO W' n0 v l := h.kept fun g hg => hb.block g (h.own g hg).2.choose_spec.lt
theorem PrsO.grew {g : Nat} (h : PrsO W n0 v l) (hb : Grew g W W') (hg : g < n0) : PrsO W' n0 v l :=
  h.kept fun k e => by
    obtain ⟨h1, _, h2⟩ := h.own k e
    exact hb.block k h2.lt (by omega)
end
theorem infoPair : (Tryz.prog.info? 46).map (fun i => (i.zero, i.size, i.bytes)) = some (some (.agg #[.string ⟨#[]⟩, .string ⟨#[]⟩]), 2, 32) := by kernel_rfl
theorem wpList_append_pair {w : World} {ops : Array Oper} {rest : List Oper} {o : Oper} {a : Act} {Q : Exit → Act → World → Prop} {n0 : Nat} {v : Value} {l : List PairL} (hgd : o.guard = none) (s x : Operand) (ho : o.op = .call { callee := .builtin .append, args := #[s, x], argTypes := #[24, 24] }) (hsv : a.eval s = v) (hv : PrsO w n0 v l)
    (k : Nat) (q : PairL) (hxv : a.eval x = .slice (some ⟨k, 0, none⟩) 1 1) (hx : Has w k 46 #[.string ⟨q.1.toArray⟩, .string ⟨q.2.toArray⟩]) (hs : l.length + 1 ≤ 1000000) (hn : n0 ≤ w.heap.size)
    (h : ∀ v' w', PrsO w' n0 v' (l ++ [q]) → w.grownBy w' v.ownBlock → wpList Tryz.prog ops Q rest (a.put o.dst v') w') : wpList Tryz.prog ops Q (o :: rest) a w := by
  obtain ⟨i, hi, hz, hz1, hz2⟩ := info_parts infoPair
  refine wpList_append_own_at w hgd s x 24 ho n0 46 i _ 2 32 Tryz.underlying24 hi hz hz1 hz2 rfl (by decide) v l.length (prsC l) hsv hv ⟨k, 0, none⟩ 1 1 (prsC [q]) hxv rfl (fun j u hu => ?_) (prsC_one _) (by simp only [maxLen]; omega) (by omega) hn (fun v' w' h1 h2 _ _ => h v' w' ?_ h2)
  · rw [add_zero_, Nat.zero_add, hx.cell]
    simpa [prsC] using hu
  · unfold PrsO
    rw [List.length_append, List.length_singleton, prsC_append]
    exact h1
/-! ### The mathematics, step by step -/
theorem allL_step {α β : Type} {f : α → Option β} {done : List β} {x : α} {r : List α} {y : β} (h : f x = some y) : (allL f (x :: r)).map (done ++ ·) = (allL f r).map ((done ++ [y]) ++ ·) := by
  rw [show allL f (x :: r) = match f x, allL f r with | some y, some l => some (y :: l) | _, _ => none from rfl, h]
  cases allL f r <;> simp
theorem allL_stop {α β : Type} {f : α → Option β} {done : List β} {x : α} {r : List α} (h : f x = none) : (allL f (x :: r)).map (done ++ ·) = none := by
  rw [show allL f (x :: r) = match f x, allL f r with | some y, some l => some (y :: l) | _, _ => none from rfl, h]
  rfl
theorem allL_end {α β : Type} {f : α → Option β} (done : List β) : (allL f ([] : List α)).map (done ++ ·) = some done := by simp [allL]
theorem allL_start {α β : Type} (f : α → Option β) (l : List α) : allL f l = (allL f l).map (([] : List β) ++ ·) := by cases allL f l <;> rfl
/-- What is not empty, of pairs' texts. -/
def qsL (l : List (List UInt8)) : List (List UInt8) := l.filter fun q => decide (q ≠ [])
theorem qsL_no {x : List UInt8} {r : List (List UInt8)} (h : x = []) : qsL (x :: r) = qsL r := by unfold qsL; simp [h]
theorem qsL_yes {x : List UInt8} {r : List (List UInt8)} (h : x ≠ []) : qsL (x :: r) = x :: qsL r := by unfold qsL; simp [h]
def tgV0 : Value := .tuple #[.agg #[.slice none 0 0, .slice none 0 0], .int .i64 210]
def ParseR (o : Option TgL) (w : World) (e : Ending) (w' : World) : Prop := match o with
  | none => e = .returned tgV0 ∧ Below w.heap.size w w'
  | some t => (∃ v, e = .returned (.tuple #[v, .int .i64 0]) ∧ TgV w' v t) ∧ Below w.heap.size w w'
end Go.Proofs.YtcogdfgmmpfkkaaGreatDoor

/- The contracts of the library that these proofs lean on, laid at this program by the guide's own command, in plain words. -/
namespace Go.Proofs
open Go.Shelf
def Tryz.lays264_ren : Go.Shelf.Ren := ⟨fun | 264 => 128 | n => n, fun | 53 => 60 | 46 => 126 | n => n, fun | n => n⟩
theorem Tryz.lays264 : Go.Proofs.Lays.n264 Tryz.prog Tryz.lays264_ren := {
  mixed := by kernel_rfl
  f264 := Tryz.func128.trans (congrArg some (by kernel_rfl))
  t46 := Tryz.underlying126
  a46 := Tryz.isAgg126
  z46 := Tryz.sizeOf126
  v46 := Tryz.zeroValue126
  t53 := Tryz.underlying60
  a53 := Tryz.isAgg60
  z53 := Tryz.sizeOf60
  v53 := Tryz.zeroValue60 }
open Go.RowKit Go.Lib in
theorem Tryz.bits_Mul64 (x y : Nat) (hx : x < 18446744073709551616) (hy : y < 18446744073709551616) (w : World) :
    Calls Tryz.prog 128 #[.int .u64 x, .int .u64 y] w fun e w' => e = .returned (.tuple #[.int .u64 ((x * y / 18446744073709551616 : Nat) : Int), .int .u64 ((x * y % 18446744073709551616 : Nat) : Int)]) ∧ w' = w := Any.bits_Mul64 Tryz.lays264 x y hx hy w
end Go.Proofs

namespace Go.Proofs.YtcogdfgmmpfkkaaGreatDoor
open Go.RowKit

/-! What the calls of layer 1 answer: the value, the error's number. -/
def addR (a b : Int) : Int × Int := if a + b < 18446744073709551616 then (a + b, 0) else (0, 111)
def subR (a b : Int) : Int × Int := if b ≤ a then (a - b, 0) else (0, 112)
def mulR (a b : Int) : Int × Int := if a * b < 18446744073709551616 then (a * b, 0) else (0, 111)
def nextR (a b : Int) : Int × Int := if a < b then (a + 1, 0) else (0, 111)
def clampR (n l m : Int) : Int × Int := if l ≤ m then (min (max n l) m, 0) else (0, 2)

def Is64 (a : Int) : Prop := 0 ≤ a ∧ a < 18446744073709551616

theorem addR_64 {a b : Int} (ha : Is64 a) (hb : Is64 b) : Is64 (addR a b).1 := by
  unfold addR Is64 at *; split <;> constructor <;> simp <;> omega

def Two (r : Int × Int) : Ending := .returned (.tuple #[.int .u64 r.1, .int .i64 r.2])
theorem two_of {r : Int × Int} {x y : Int} (h : r = (x, y)) : Ending.returned (.tuple #[.int .u64 x, .int .i64 y]) = Two r := by rw [h]; rfl

section
variable (a b c : Int) (w : World)
set_option maxHeartbeats 400000

theorem run_add64_lo (ha : Is64 a) (hb : Is64 b) (h : a + b < 18446744073709551616) :
    (callFunc 129 #[.int .u64 a, .int .u64 b, .int .u64 0]).run Tryz.prog w = .ok (.value (.tuple #[.int .u64 (a + b), .int .u64 0])) w := by
  obtain ⟨ha0, ha⟩ := ha
  obtain ⟨hb0, hb⟩ := hb
  rw [run_callFunc_extern Tryz.func129 (by kernel_rfl) (by kernel_rfl) (by kernel_rfl) (e := add64Entry) (by kernel_rfl), run_add64 a b 0 ha0 hb0 (by omega) (by omega)]
  simp only [Result.andThen]
  rw [show (a + b + 0) % 18446744073709551616 = a + b from by omega, show (a + b + 0) / 18446744073709551616 = 0 from by omega]
theorem run_add64_hi (ha : Is64 a) (hb : Is64 b) (h : 18446744073709551616 ≤ a + b) :
    (callFunc 129 #[.int .u64 a, .int .u64 b, .int .u64 0]).run Tryz.prog w = .ok (.value (.tuple #[.int .u64 (a + b - 18446744073709551616), .int .u64 1])) w := by
  obtain ⟨ha0, ha⟩ := ha
  obtain ⟨hb0, hb⟩ := hb
  rw [run_callFunc_extern Tryz.func129 (by kernel_rfl) (by kernel_rfl) (by kernel_rfl) (e := add64Entry) (by kernel_rfl), run_add64 a b 0 ha0 hb0 (by omega) (by omega)]
  simp only [Result.andThen]
  rw [show (a + b + 0) % 18446744073709551616 = a + b - 18446744073709551616 from by omega, show (a + b + 0) / 18446744073709551616 = 1 from by omega]
theorem add_any (ha : Is64 a) (hb : Is64 b) : Calls Tryz.prog 127 #[.int .u64 a, .int .u64 b] w fun e w' => e = Two (addR a b) ∧ w = w' := by
  by_cases h : a + b < 18446744073709551616
  · have hadd := run_add64_lo a b w ha hb h
    go_enter Tryz.func127, Tryz.ntmps127
    go_wp2
    go_ret2
    exact ⟨two_of (if_pos h), rfl⟩
  · have hadd := run_add64_hi a b w ha hb (by omega)
    have h' := Lib.hid h; clear h
    go_enter Tryz.func127, Tryz.ntmps127
    go_wp2
    go_ret2
    exact ⟨two_of (if_neg (by have := h'.out; omega)), rfl⟩
theorem mulR_lo (h : a * b < 18446744073709551616) : mulR a b = (a * b, 0) := if_pos h
theorem mulR_hi (h : 18446744073709551616 ≤ a * b) : mulR a b = (0, 111) := if_neg (by omega)
theorem quot_lt (ha : 0 < a) (h : 18446744073709551615 / a < b) : 18446744073709551616 ≤ a * b := by
  have := (Int.ediv_lt_iff_lt_mul ha).1 h
  rw [Int.mul_comm] at this
  omega
theorem quot_le (ha : 0 < a) (h : b ≤ 18446744073709551615 / a) : a * b < 18446744073709551616 := by
  have := (Int.le_ediv_iff_mul_le ha).1 h
  rw [Int.mul_comm] at this
  omega
theorem wrap_mul (h0 : 0 ≤ a * b) (h : a * b < 18446744073709551616) : IntKind.u64.wrap (a * b) = a * b := by rw [IntKind.wrap_u64]; omega
/-- The product's upper half is no nought: whatever the halves are. -/
def Upper (e : Ending) : Prop := ∃ h l : Int, e = .returned (.tuple #[.int .u64 h, .int .u64 l]) ∧ (h != 0) = true
theorem mul64_lo (ha : Is64 a) (hb : Is64 b) (h : a * b < 18446744073709551616) : Calls Tryz.prog 128 #[.int .u64 a, .int .u64 b] w fun e w' => e = .returned (.tuple #[.int .u64 0, .int .u64 (a * b)]) ∧ w = w' := by
  obtain ⟨ha0, ha⟩ := ha
  obtain ⟨hb0, hb⟩ := hb
  obtain ⟨x, rfl⟩ := Int.eq_ofNat_of_zero_le ha0
  obtain ⟨y, rfl⟩ := Int.eq_ofNat_of_zero_le hb0
  refine (Tryz.bits_Mul64 x y (by omega) (by omega) w).mono fun e w' ⟨he, hw⟩ => ⟨?_, hw.symm⟩
  have h' : x * y < 18446744073709551616 := by rw [← Int.natCast_mul] at h; omega
  rw [he, Nat.div_eq_of_lt h', Nat.mod_eq_of_lt h', Int.natCast_mul]
  rfl
theorem mul64_hi (ha : Is64 a) (hb : Is64 b) (h : 18446744073709551616 ≤ a * b) : Calls Tryz.prog 128 #[.int .u64 a, .int .u64 b] w fun e w' => Upper e ∧ w = w' := by
  obtain ⟨ha0, ha⟩ := ha
  obtain ⟨hb0, hb⟩ := hb
  obtain ⟨x, rfl⟩ := Int.eq_ofNat_of_zero_le ha0
  obtain ⟨y, rfl⟩ := Int.eq_ofNat_of_zero_le hb0
  refine (Tryz.bits_Mul64 x y (by omega) (by omega) w).mono fun e w' ⟨he, hw⟩ => ⟨⟨_, _, he, ?_⟩, hw.symm⟩
  have h' : 18446744073709551616 ≤ x * y := by rw [← Int.natCast_mul] at h; omega
  have : 0 < x * y / 18446744073709551616 := Nat.div_pos h' (by omega)
  rw [bne_iff_ne]; omega
theorem mul_any (ha : Is64 a) (hb : Is64 b) : Calls Tryz.prog 126 #[.int .u64 a, .int .u64 b] w fun e w' => e = Two (mulR a b) ∧ w = w' := by
  by_cases h : a * b < 18446744073709551616
  · have hc := Lib.hid (mul64_lo a b w ha hb h)
    have h' := Lib.hid h; clear h ha hb
    go_enter Tryz.func126, Tryz.ntmps126
    go_wp2_with (go_at_call 128; refine hc.out.mono ?_; rintro e w' ⟨rfl, rfl⟩)
    go_ret2
    exact ⟨two_of (if_pos h'.out), rfl⟩
  · have hc := Lib.hid (mul64_hi a b w ha hb (by omega))
    have h' := Lib.hid h; clear h ha hb
    go_enter Tryz.func126, Tryz.ntmps126
    go_wp2_with (go_at_call 128; refine hc.out.mono ?_; rintro e w' ⟨⟨x, y, rfl, hne⟩, rfl⟩)
    go_ret2
    exact ⟨two_of (if_neg (by have := h'.out; omega)), rfl⟩
end
end Go.Proofs.YtcogdfgmmpfkkaaGreatDoor
