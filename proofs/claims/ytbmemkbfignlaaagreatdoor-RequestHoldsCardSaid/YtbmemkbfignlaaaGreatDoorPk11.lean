import Derived.Test.YtbmemkbfignlaaaGreatDoorPk9
import Derived.Test.YtbmemkbfignlaaaGreatDoorPk10
import Derived.Lib.OthersKept
import Derived.Laws.RangeAny
import Derived.Deep.LoopGhost
import Derived.Laws.RangeString
import Derived.Laws.Strings3
namespace Go.Proofs.YtbmemkbfignlaaaGreatDoor
open Go.RowKit Go.Shelf Go.Lib
attribute [local go_sem] Oper.semAt_some

/-! ## What a target's text must be -/
theorem prefix_head (s : List UInt8) : Lib.hasPrefix s [47] = decide (s.head? = some 47) := by
  unfold Lib.hasPrefix
  cases s with
  | nil => rfl
  | cons c r =>
    by_cases h : c = 47
    · subst h; simp [List.isPrefixOf]
    · simp [List.isPrefixOf, h]; exact fun e => h e.symm
theorem headT_any (s : List UInt8) (w : World) : Calls Tryz.prog 130 #[.string ⟨s.toArray⟩] w (BoolR (decide (s.head? = some 47)) w) := by
  have h := Lib.hid (Tryz.strings_HasPrefix ⟨s.toArray⟩ ⟨#[47]⟩ w)
  rw [show (⟨s.toArray⟩ : ByteArray).data.toList = s from rfl, show (⟨#[47]⟩ : ByteArray).data.toList = [47] from rfl, prefix_head] at h
  unfold BoolR
  generalize decide (s.head? = some 47) = b at *
  go_enter Tryz.func130, Tryz.ntmps130
  go_wp2_with (go_at_call 131; (with_reducible refine Calls.mono h.out ?_); rintro e w7 ⟨rfl, hw7⟩; obtain rfl := hw7.symm)
  go_ret
  exact ⟨rfl, Below.refl _ _⟩
theorem okB_iff (c : UInt8) : okB c = true ↔ 33 ≤ (c.toNat : Int) ∧ (c.toNat : Int) ≤ 126 ∧ ¬ (c.toNat : Int) = 35 := by
  unfold okB
  have h35 : (35 : UInt8).toNat = 35 := rfl
  have hn : c ≠ 35 ↔ ¬ c.toNat = 35 := by rw [← h35, UInt8.toNat_inj]
  simp only [Bool.and_eq_true, decide_eq_true_eq, hn]
  omega
theorem all_stop {s : List UInt8} {pos : Nat} (h : pos < s.length) (hn : okB s[pos] = false) : s.all okB = false := by
  rw [List.all_eq_false]
  exact ⟨s[pos], List.getElem_mem h, by rw [hn]; decide⟩
theorem all_take {s : List UInt8} {pos : Nat} (h : pos < s.length) (ha : (s.take pos).all okB = true) (hn : okB s[pos] = true) : (s.take (pos + 1)).all okB = true := by
  rw [take_next s h, List.all_append, ha]
  simp [hn]
set_option maxRecDepth 100000 in
set_option maxHeartbeats 4000000 in
theorem signsT_any (s : List UInt8) (w : World) (hs : s.length ≤ 600000) : Calls Tryz.prog 132 #[.string ⟨s.toArray⟩] w (BoolR (s.all okB) w) := by
  obtain ⟨g, hg⟩ : ∃ g, w.heap.size = g := ⟨_, rfl⟩
  obtain ⟨b, hb0⟩ : ∃ b, s.all okB = b := ⟨_, rfl⟩
  have hit0 : Hid ((w.iter ⟨s.toArray⟩ 0).heap[g]? = some (.stringIter ⟨s.toArray⟩ 0)) := Lib.hid (by rw [← hg]; exact World.iter_heap _ _ _)
  have hbl0 : Hid (Below g w (w.iter ⟨s.toArray⟩ 0)) := Lib.hid ((Below.refl _ _).alloc (by omega) _)
  have hb0' := Lib.hid hb0
  rw [hb0]
  clear hb0
  unfold BoolR
  rw [hg]
  go_enter Tryz.func132, Tryz.ntmps132
  go_wp2
  go_loopw [4] (fun _ W => ∃ pos : Nat, pos ≤ s.length ∧ W.heap[g]? = some (.stringIter ⟨s.toArray⟩ pos) ∧ (s.take pos).all okB = true ∧ Below g w W) (fun _ W => s.length - W.iterPos g)
  case atStart => exact ⟨0, Nat.zero_le _, hit0.out, rfl, hbl0.out⟩
  case round =>
    obtain ⟨pos, hpos, hit, hal, hb⟩ := hrel
    have hip : wr.iterPos g = pos := by unfold World.iterPos; rw [hit]
    have hal' := Lib.hid hal
    clear hal hit0 hbl0
    by_cases hlt : pos < s.length
    · have hnx : ∀ ty, (Instr.next (.pointer (some ⟨g, 0, none⟩)) true ty).run Tryz.prog wr = _ := fun ty => Lib.run_next_any_at wr g ⟨s.toArray⟩ pos ty hit hlt
      have hbW2 : Below g w (wr.iterAt g ⟨s.toArray⟩ (pos + (Utf8.decode ⟨s.toArray⟩ pos).2)) := Lib.below_iterAt hb (by omega) _ _
      have hit2 : (wr.iterAt g ⟨s.toArray⟩ (pos + (Utf8.decode ⟨s.toArray⟩ pos).2)).heap[g]? = some (.stringIter ⟨s.toArray⟩ (pos + (Utf8.decode ⟨s.toArray⟩ pos).2)) := Lib.iterAt_heap wr g ⟨s.toArray⟩ pos _ hit
      clear hb
      by_cases hh : s[pos].toNat < 128
      · have hd : Utf8.decode ⟨s.toArray⟩ pos = (s[pos].toNat, 1) := decode_ascii ⟨s.toArray⟩ pos hlt hh
        rw [hd] at hnx hbW2 hit2
        simp only at hnx hbW2 hit2
        obtain ⟨W1, hW1⟩ : ∃ W1, wr.iterAt g ⟨s.toArray⟩ (pos + 1) = W1 := ⟨_, rfl⟩
        rw [hW1] at hnx hbW2 hit2
        have hit' := Lib.hid hit2
        have hb' := Lib.hid hbW2
        have hip' := Lib.hid hip
        clear hd hW1 hit2 hbW2 hit hip
        obtain ⟨c, hc⟩ : ∃ c, s[pos] = c := ⟨_, rfl⟩
        by_cases h1 : okB c = true
        · have ha2 := Lib.hid (all_take hlt hal'.out (by rw [hc]; exact h1))
          obtain ⟨i1, i2, i3⟩ := (okB_iff c).1 h1
          rw [hc] at hnx hh
          have j1 : ¬ (c.toNat : Int) < 33 := by omega
          have j2 : ¬ 126 < (c.toNat : Int) := by omega
          have j3 : ((c.toNat : Int) == 35) = false := beq_eq_false_iff_ne.2 i3
          clear hc h1 i1 i2 i3
          generalize (c.toNat : Int) = x at *
          go_wp2
          exact ⟨⟨pos + 1, by omega, hit'.out, ha2.out, hb'.out⟩, by rw [hip'.out]; unfold World.iterPos; rw [hit'.out]; simp; omega⟩
        · have ha2 := Lib.hid (all_stop hlt (by rw [hc]; simpa using h1))
          have hor : (c.toNat : Int) < 33 ∨ ¬ (c.toNat : Int) < 33 ∧ 126 < (c.toNat : Int) ∨ ¬ (c.toNat : Int) < 33 ∧ ¬ 126 < (c.toNat : Int) ∧ (c.toNat : Int) = 35 := by
            have := mt (okB_iff c).2 h1
            omega
          rw [hc] at hnx hh
          clear hc h1
          generalize (c.toNat : Int) = x at *
          rcases hor with j1 | ⟨j1, j2⟩ | ⟨j1, j2, rfl⟩
          all_goals
            go_wp2
            go_ret
            exact ⟨by rw [← hb0'.out, ha2.out]; rfl, hb'.out⟩
      · have hhi := decode_high ⟨s.toArray⟩ pos hlt (by have : (⟨s.toArray⟩ : ByteArray)[pos]'hlt = s[pos] := rfl; rw [this]; omega)
        have ha2 := Lib.hid (all_stop hlt (by
          rw [Bool.eq_false_iff]
          intro e
          have := (okB_iff s[pos]).1 e
          omega))
        generalize (Utf8.decode ⟨s.toArray⟩ pos).2 = n at *
        have j1 : ¬ ((Utf8.decode ⟨s.toArray⟩ pos).1 : Int) < 33 := by omega
        have j2 : 126 < ((Utf8.decode ⟨s.toArray⟩ pos).1 : Int) := by omega
        generalize ((Utf8.decode ⟨s.toArray⟩ pos).1 : Int) = x at *
        obtain ⟨W1, hW1⟩ : ∃ W1, wr.iterAt g ⟨s.toArray⟩ (pos + n) = W1 := ⟨_, rfl⟩
        rw [hW1] at hnx hbW2 hit2
        have hb' := Lib.hid hbW2
        clear hW1 hit2 hbW2 hit hip hhi hh
        go_wp2
        go_ret
        exact ⟨by rw [← hb0'.out, ha2.out]; rfl, hb'.out⟩
    · obtain rfl : pos = s.length := by omega
      have hnx : ∀ ty, (Instr.next (.pointer (some ⟨g, 0, none⟩)) true ty).run Tryz.prog wr = _ := fun ty => Lib.run_next_end_at wr g ⟨s.toArray⟩ s.length ty hit (by show ¬ _ < s.toArray.size; simp)
      have hb' := Lib.hid hb
      clear hb hit hip
      go_wp2
      go_ret
      have := hal'.out
      rw [List.take_length, hb0'.out] at this
      exact ⟨by rw [this]; rfl, hb'.out⟩
end Go.Proofs.YtbmemkbfignlaaaGreatDoor

namespace Go.Proofs.YtbmemkbfignlaaaGreatDoor
open Go.RowKit Go.Shelf Go.Lib
attribute [local go_sem] Oper.semAt_some

/-! ## A point that is none of two bytes -/
theorem enc_high (r : Int) (h : 128 ≤ r) : (Utf8.encode r).size = 2 ∧ (∃ a b : UInt8, Utf8.encode r = ⟨#[a, b]⟩ ∧ 128 ≤ b.toNat) ∨ 3 ≤ (Utf8.encode r).size ∧ (Utf8.encode r).size ≤ 4 := by
  unfold Utf8.encode
  simp only
  have hc : 128 ≤ (if Utf8.valid r = true then r.toNat else Utf8.runeError) := by
    split
    · omega
    · decide
  generalize (if Utf8.valid r = true then r.toNat else Utf8.runeError) = c at *
  rw [if_neg (by omega)]
  split
  · refine .inl ⟨rfl, _, _, rfl, ?_⟩
    rw [UInt8.toNat_ofNat']
    omega
  · split
    · exact .inr ⟨by show 3 ≤ 3; omega, by show 3 ≤ 4; omega⟩
    · exact .inr ⟨by show 3 ≤ 4; omega, by show 4 ≤ 4; omega⟩
def twoB : ByteArray := ⟨#[47, 0]⟩
set_option maxRecDepth 100000 in
set_option maxHeartbeats 4000000 in
theorem indexRune_bad (w : World) : Calls Tryz.prog 190 #[.string ⟨#[47, 0]⟩, .int .i32 65533] w fun e w' => e = .returned (.int .i64 (-1)) ∧ Below w.heap.size w w' := by
  have hx : ∀ i : Nat, (hi : i < twoB.size) → (twoB[i]'hi).toNat < 128 := by decide
  have hz : twoB.size = 2 := rfl
  rw [show (⟨#[47, 0]⟩ : ByteArray) = twoB from rfl]
  go_enter Tryz.func190, Tryz.ntmps190
  go_wp2
  go_loopg [5, 6] 2 (fun g _ _ wx => ∃ i : Nat, i + g = 2 ∧ wx = w.iter twoB i)
  case atStart => exact ⟨0, by omega, rfl⟩
  case round =>
    obtain ⟨i, hig, rfl⟩ := hrel
    cases gk with
    | zero =>
      obtain rfl : i = 2 := by omega
      have hnx := run_next_end (P := Tryz.prog) w twoB 2
      go_wp2
      go_ret
      exact ⟨rfl, (Below.refl _ _).alloc (Nat.le_refl _) _⟩
    | succ g =>
      have hi : i < twoB.size := by rw [hz]; omega
      have hnx := fun ty => run_next_ascii (P := Tryz.prog) w twoB i ty hi (hx i hi)
      have h9 : (((twoB[i]'hi).toNat : Int) == 65533) = false := beq_eq_false_iff_ne.2 (by have := hx i hi; omega)
      generalize ((twoB[i]'hi).toNat : Int) = x at *
      go_wp2
      go_roundg g
      case measure => omega
      case rel => exact ⟨i + 1, by omega, rfl⟩
set_option maxRecDepth 100000 in
set_option maxHeartbeats 4000000 in
theorem indexRune_high (r : Int) (h1 : 128 ≤ r) (h2 : r ≤ 2147483647) (w : World) : Calls Tryz.prog 190 #[.string ⟨#[47, 0]⟩, .int .i32 r] w fun e w' => e = .returned (.int .i64 (-1)) ∧ Below w.heap.size w w' := by
  by_cases hb : r = 65533
  · subst hb
    exact indexRune_bad w
  · have hbE : (r == 65533) = false := beq_eq_false_iff_ne.2 hb
    have j0 : 0 ≤ r := by omega
    have j1 : ¬ r < 128 := by omega
    have hv := Lib.hid (fun W => Tryz.utf8_ValidRune r W)
    have he := enc_high r h1
    clear hb h1 h2
    go_enter Tryz.func190, Tryz.ntmps190
    go_wp2_with (go_at_call 199; (with_reducible refine Calls.mono (hv.out _) ?_); rintro e w7 ⟨rfl, hw7⟩; obtain rfl := hw7.symm)
    · go_ret
      exact ⟨rfl, Below.refl _ _⟩
    · clear hv
      have hcv : ∀ W : World, (convert 21 9 (.int .i32 r)).run Tryz.prog W = .ok (.string (Utf8.encode r)) W := fun W => by
        simp [convert, run_underlying Tryz.underlying21, run_underlying Tryz.underlying9, Conv.intToString]
      have hci : ∀ W : World, (Conv.intToString r).run Tryz.prog W = .ok (.string (Utf8.encode r)) W := fun W => rfl
      generalize Utf8.encode r = rs at *
      rcases he with ⟨-, a, b, rfl, hb⟩ | ⟨h3, h4⟩
      · have hix := Lib.hid (fun W => show Calls Tryz.prog 104 #[.string ByteArray.empty, .int .u8 (b.toNat : Int)] W fun e w' => e = .returned (.int .i64 (-1)) ∧ w' = W from Tryz.strings_IndexByte ByteArray.empty (b.toNat : Int) W)
        have e1 : (⟨#[47, 0]⟩ : ByteArray).extract 2 2 = ByteArray.empty := by decide
        have hlt : 1 < (⟨#[a, b]⟩ : ByteArray).size := by show 1 < 2; omega
        have hbb : (((⟨#[a, b]⟩ : ByteArray)[1]'hlt).toNat : Int) = (b.toNat : Int) := rfl
        have h47 : 1 < (⟨#[47, 0]⟩ : ByteArray).size := by show 1 < 2; omega
        have hne : ((((⟨#[47, 0]⟩ : ByteArray)[1]'h47).toNat : Int) != (b.toNat : Int)) = true := by
          rw [show (((⟨#[47, 0]⟩ : ByteArray)[1]'h47).toNat : Int) = 0 from rfl, bne_iff_ne]
          omega
        have hsz : (⟨#[a, b]⟩ : ByteArray).size = 2 := rfl
        have hw2 : IntKind.i64.wrap 2 = 2 := by decide
        have hsz2 : (⟨#[47, 0]⟩ : ByteArray).size = 2 := rfl
        go_step3
        go_wp2
        go_loopg [9, 10, 11, 12] 1 (fun g x y _ _ wx => x = .int .i64 1 ∧ y = .int .i64 0 ∧ wx = w)
        case atStart => exact ⟨rfl, rfl, rfl⟩
        case round =>
          obtain ⟨rfl, rfl, rfl⟩ := hrel
          go_wp2
          go_step3
          go_wp2
          go_quiet (fail)
          go_wp2
          obtain ⟨wq, hwq⟩ : ∃ wq, wr.drewN nq = wq := ⟨_, rfl⟩
          have hbq := Lib.hid (show Below wr.heap.size wr wq by rw [← hwq]; exact below_draws (Below.refl _ _) _)
          rw [hwq]
          clear hwq
          go_quiet ((go_at_call 104; exact Calls.quiet_of_same (hix.out _)))
          go_wp2
          simp only [Exit.noGoto_ret, Exit.inBlock, Exit.then]
          go_ret
          exact ⟨rfl, below_draws hbq.out _⟩
      · obtain ⟨n, hn⟩ : ∃ n : Nat, rs.size = n := ⟨_, rfl⟩
        have hsI : (rs.size : Int) = (n : Int) := by rw [hn]
        have hw1 : IntKind.i64.wrap ((n : Int) - 1) = (n : Int) - 1 := by rw [IntKind.wrap_i64]; omega
        have hnl : ¬ (n : Int) - 1 < 2 := by omega
        rw [hn] at h3 h4
        go_step3
        go_wp2
        go_loopg [9, 10, 11, 12] 1 (fun g x y _ _ wx => x = .int .i64 ((n : Int) - 1) ∧ y = .int .i64 0 ∧ wx = w)
        case atStart => exact ⟨rfl, rfl, rfl⟩
        case round =>
          obtain ⟨rfl, rfl, rfl⟩ := hrel
          go_wp2
          try rw [Exit.noGoto_ret]
          go_ret
          exact ⟨rfl, Below.refl _ _⟩
end Go.Proofs.YtbmemkbfignlaaaGreatDoor

namespace Go.Proofs.YtbmemkbfignlaaaGreatDoor
open Go.RowKit Go.Shelf Go.Lib
attribute [local go_sem] Oper.semAt_some

/-! ## What a part must be -/
/-- Bytes that a point takes with it are no letters. -/
theorem decode_span (s : ByteArray) (pos k : Nat) (hk : 1 ≤ k) (h : k < (Utf8.decode s pos).2) : pos + k < s.size ∧ 128 ≤ (s.get! (pos + k)).toNat := by
  have key : ∀ m, (decide (pos + m < s.size) && (s.get! (pos + m)).toNat / 64 == 2) = true → pos + m < s.size ∧ 128 ≤ (s.get! (pos + m)).toNat := fun m hm => by
    rw [Bool.and_eq_true, decide_eq_true_eq, beq_iff_eq] at hm
    exact ⟨hm.1, by omega⟩
  obtain ⟨c1, h1⟩ : ∃ c, (decide (pos + 1 < s.size) && (s.get! (pos + 1)).toNat / 64 == 2) = c := ⟨_, rfl⟩
  obtain ⟨c2, h2⟩ : ∃ c, (decide (pos + 2 < s.size) && (s.get! (pos + 2)).toNat / 64 == 2) = c := ⟨_, rfl⟩
  obtain ⟨c3, h3⟩ : ∃ c, (decide (pos + 3 < s.size) && (s.get! (pos + 3)).toNat / 64 == 2) = c := ⟨_, rfl⟩
  have k1 : c1 = true → pos + 1 < s.size ∧ 128 ≤ (s.get! (pos + 1)).toNat := fun e => key 1 (h1.trans e)
  have k2 : c2 = true → pos + 2 < s.size ∧ 128 ≤ (s.get! (pos + 2)).toNat := fun e => key 2 (h2.trans e)
  have k3 : c3 = true → pos + 3 < s.size ∧ 128 ≤ (s.get! (pos + 3)).toNat := fun e => key 3 (h3.trans e)
  revert h
  simp only [Utf8.decode, h1, h2, h3]
  clear key h1 h2 h3
  repeat' split
  all_goals intro h
  all_goals try (exfalso; omega)
  all_goals simp only [Bool.and_eq_true] at *
  all_goals rcases (by omega : k = 1 ∨ k = 2 ∨ k = 3) with rfl | rfl | rfl
  all_goals first | (exfalso; omega) | exact k1 (by simp_all) | exact k2 (by simp_all) | exact k3 (by simp_all)
theorem getOct (s : List UInt8) (j : Nat) (h : j < s.length) : (⟨s.toArray⟩ : ByteArray).get! j = s[j] := by
  have h2 : j < (⟨s.toArray⟩ : ByteArray).size := h
  have := get_at ⟨s.toArray⟩ j h2
  rw [Nat.add_zero] at this
  exact this
/-- No byte of a part. -/
def badB (c : UInt8) : Bool := c == 47 || c == 0
theorem any_over (s : List UInt8) (pos : Nat) (h0 : (s.take (pos + 1)).any badB = false) : ∀ n : Nat, (∀ k, 1 ≤ k → k < n → pos + k < s.length ∧ ∀ h : pos + k < s.length, 128 ≤ s[pos + k].toNat) → 1 ≤ n → (s.take (pos + n)).any badB = false
  | 0, _, h => absurd h (by omega)
  | 1, _, _ => h0
  | n + 2, hk, _ => by
    obtain ⟨h1, h2⟩ := hk (n + 1) (by omega) (by omega)
    have ih := any_over s pos h0 (n + 1) (fun k h1 h2 => hk k h1 (by omega)) (by omega)
    have h3 := h2 h1
    rw [show pos + (n + 2) = (pos + (n + 1)) + 1 by omega, take_next s h1, List.any_append, ih]
    simp only [List.any_cons, List.any_nil, Bool.or_false, Bool.false_or]
    unfold badB
    generalize s[pos + (n + 1)] = c at *
    rw [Bool.or_eq_false_iff, beq_eq_false_iff_ne, beq_eq_false_iff_ne]
    exact ⟨fun e => by subst e; revert h3; decide, fun e => by subst e; revert h3; decide⟩
theorem any_point (s : List UInt8) {pos : Nat} (h : pos < s.length) (hh : 128 ≤ s[pos].toNat) (h0 : (s.take pos).any badB = false) : (s.take (pos + (Utf8.decode ⟨s.toArray⟩ pos).2)).any badB = false ∧ pos + (Utf8.decode ⟨s.toArray⟩ pos).2 ≤ s.length := by
  have hw := (decode_high ⟨s.toArray⟩ pos h hh).2
  have hk : ∀ k, 1 ≤ k → k < (Utf8.decode ⟨s.toArray⟩ pos).2 → pos + k < s.length ∧ ∀ h : pos + k < s.length, 128 ≤ s[pos + k].toNat := fun k h1 h2 => by
    obtain ⟨a, b⟩ := decode_span ⟨s.toArray⟩ pos k h1 h2
    have a' : pos + k < s.length := a
    refine ⟨a', fun _ => ?_⟩
    rw [getOct s _ a'] at b
    exact b
  refine ⟨any_over s pos ?_ _ hk hw, ?_⟩
  · rw [take_next s h, List.any_append, h0]
    simp only [List.any_cons, List.any_nil, Bool.or_false, Bool.false_or]
    unfold badB
    generalize s[pos] = c at *
    rw [Bool.or_eq_false_iff, beq_eq_false_iff_ne, beq_eq_false_iff_ne]
    exact ⟨fun e => by subst e; revert hh; decide, fun e => by subst e; revert hh; decide⟩
  · rcases Nat.lt_or_ge 1 (Utf8.decode ⟨s.toArray⟩ pos).2 with h1 | h1
    · have := (hk ((Utf8.decode ⟨s.toArray⟩ pos).2 - 1) (by omega) (by omega)).1
      omega
    · omega
theorem indexAny_bad : ∀ s : List UInt8, decide (0 ≤ Lib.indexAny s [47, 0]) = s.any badB
  | [] => rfl
  | c :: r => by
    have ih := indexAny_bad r
    have hge := Lib.indexAny_ge [47, 0] r
    rw [List.any_cons, Lib.indexAny]
    have hc : ([47, 0] : List UInt8).contains c = badB c := by
      unfold badB
      rw [List.contains_cons, List.contains_cons, List.contains_nil, Bool.or_false]
    rw [hc]
    cases badB c
    · simp only [Bool.false_eq_true, if_false, Bool.false_or]
      rw [← ih]
      by_cases h : Lib.indexAny r [47, 0] = -1
      · rw [if_pos (beq_iff_eq.2 h), h]
      · rw [if_neg (fun e => h (beq_iff_eq.1 e))]
        exact decide_eq_decide.2 (by omega)
    · rfl
theorem indexB_bad (c : UInt8) : decide (0 ≤ Lib.indexByte [47, 0] c) = badB c := by
  unfold badB
  by_cases h1 : c = 47
  · subst h1; rfl
  · by_cases h2 : c = 0
    · subst h2; rfl
    · have e1 : ((47 : UInt8) == c) = false := beq_eq_false_iff_ne.2 (fun e => h1 e.symm)
      have e2 : ((0 : UInt8) == c) = false := beq_eq_false_iff_ne.2 (fun e => h2 e.symm)
      simp [Lib.indexByte, e1, e2, h1, h2]
/-- Where one of the two bytes stands; the place itself is not told. -/
def AnyR (b : Bool) (w : World) (e : Ending) (w' : World) : Prop := (∃ n : Int, e = .returned (.int .i64 n) ∧ decide (0 ≤ n) = b) ∧ Below w.heap.size w w'
set_option maxRecDepth 100000 in
set_option maxHeartbeats 4000000 in
theorem indexAny_long (s : List UInt8) (w : World) (h8 : 8 < s.length) (hs : s.length ≤ 600000) : Calls Tryz.prog 179 #[.string ⟨s.toArray⟩, .string ⟨#[47, 0]⟩] w (AnyR (s.any badB) w) := by
  have hz : ∀ W : World, (zeroValue 211).run Tryz.prog W = .ok (.agg (Array.replicate 256 (.bool false))) W := fun W => by kernel_rfl
  refine (Tryz.strings_IndexAny_long hz ⟨s.toArray⟩ ⟨#[47, 0]⟩ w (by show 2 ≤ 2; omega) (by show 8 < s.length; omega) (by show s.length < _; omega) (by show 2 < _; omega) ?_).mono ?_
  · intro j b hb
    rw [show (⟨#[47, 0]⟩ : ByteArray).data.toList = [47, 0] from rfl] at hb
    rcases j with _ | _ | j
    · obtain rfl : (47 : UInt8) = b := by simpa using hb
      decide
    · obtain rfl : (0 : UInt8) = b := by simpa using hb
      decide
    · simp at hb
  · rintro e w' ⟨rfl, rfl⟩
    exact ⟨⟨_, rfl, indexAny_bad s⟩, ((Below.refl _ _).alloc (Nat.le_refl _) _).alloc (by simp) _⟩
set_option maxRecDepth 100000 in
set_option maxHeartbeats 4000000 in
theorem indexAny_short (s : List UInt8) (w : World) (h8 : s.length ≤ 8) : Calls Tryz.prog 179 #[.string ⟨s.toArray⟩, .string ⟨#[47, 0]⟩] w (AnyR (s.any badB) w) := by
  obtain ⟨g, hg⟩ : ∃ g, w.heap.size = g := ⟨_, rfl⟩
  obtain ⟨b, hb0⟩ : ∃ b, s.any badB = b := ⟨_, rfl⟩
  have hit0 : Hid ((w.iter ⟨s.toArray⟩ 0).heap[g]? = some (.stringIter ⟨s.toArray⟩ 0)) := Lib.hid (by rw [← hg]; exact World.iter_heap _ _ _)
  have hbl0 : Hid (Below g w (w.iter ⟨s.toArray⟩ 0)) := Lib.hid ((Below.refl _ _).alloc (by omega) _)
  have hb0' := Lib.hid hb0
  have hus := Lib.hid (fun W => show Calls Tryz.prog 191 #[.int .i64 (s.length : Int)] W fun e w' => e = .returned (.bool false) ∧ w' = W by
    have := Tryz.strings_shouldUseASCIISet (s.length : Int) W
    rwa [decide_eq_false (show ¬ (8 : Int) < (s.length : Int) by omega)] at this)
  have hgl : g < (w.iter ⟨s.toArray⟩ 0).heap.size := (Array.getElem?_eq_some_iff.1 hit0.out).1
  rw [hb0]
  clear hb0
  go_enter Tryz.func179, Tryz.ntmps179
  go_wp2_with (go_at_call 191; (with_reducible refine Calls.mono (hus.out _) ?_); rintro e w7 ⟨rfl, hw7⟩; obtain rfl := hw7.symm)
  go_loopw [9, 10] (fun _ _ W => ∃ pos : Nat, pos ≤ s.length ∧ W.heap[g]? = some (.stringIter ⟨s.toArray⟩ pos) ∧ (s.take pos).any badB = false ∧ Below g w W) (fun _ _ W => s.length - W.iterPos g)
  case atStart => exact ⟨0, Nat.zero_le _, hit0.out, rfl, hbl0.out⟩
  case round =>
    obtain ⟨pos, hpos, hit, hal, hb⟩ := hrel
    have hip : wr.iterPos g = pos := by unfold World.iterPos; rw [hit]
    have hgW : g < wr.heap.size := (Array.getElem?_eq_some_iff.1 hit).1
    have hal' := Lib.hid hal
    clear hal hit0 hbl0 hus hgl
    by_cases hlt : pos < s.length
    · have hnx : ∀ ty, (Instr.next (.pointer (some ⟨g, 0, none⟩)) true ty).run Tryz.prog wr = _ := fun ty => Lib.run_next_any_at wr g ⟨s.toArray⟩ pos ty hit hlt
      have hbW2 : Below g w (wr.iterAt g ⟨s.toArray⟩ (pos + (Utf8.decode ⟨s.toArray⟩ pos).2)) := Lib.below_iterAt hb (by omega) _ _
      have hit2 : (wr.iterAt g ⟨s.toArray⟩ (pos + (Utf8.decode ⟨s.toArray⟩ pos).2)).heap[g]? = some (.stringIter ⟨s.toArray⟩ (pos + (Utf8.decode ⟨s.toArray⟩ pos).2)) := Lib.iterAt_heap wr g ⟨s.toArray⟩ pos _ hit
      clear hb
      by_cases hh : s[pos].toNat < 128
      · have hd : Utf8.decode ⟨s.toArray⟩ pos = (s[pos].toNat, 1) := decode_ascii ⟨s.toArray⟩ pos hlt hh
        rw [hd] at hnx hbW2 hit2
        simp only at hnx hbW2 hit2
        obtain ⟨W1, hW1⟩ : ∃ W1, wr.iterAt g ⟨s.toArray⟩ (pos + 1) = W1 := ⟨_, rfl⟩
        rw [hW1] at hnx hbW2 hit2
        have hit' := Lib.hid hit2
        have hb' := Lib.hid hbW2
        have hip' := Lib.hid hip
        clear hd hW1 hit2 hbW2 hit hip
        obtain ⟨c, hc⟩ : ∃ c, s[pos] = c := ⟨_, rfl⟩
        rw [hc] at hnx hh
        have hix := Lib.hid (fun W => show Calls Tryz.prog 190 #[.string ⟨#[47, 0]⟩, .int .i32 (c.toNat : Int)] W fun e w' => e = .returned (.int .i64 (Lib.indexByte [47, 0] c)) ∧ w' = W by
          have := Tryz.strings_IndexRune_ascii ⟨#[47, 0]⟩ (c.toNat : Int) W (by omega) (by omega)
          rwa [show ((c.toNat : Int)).toNat.toUInt8 = c by simp, show (⟨#[47, 0]⟩ : ByteArray).data.toList = [47, 0] from rfl] at this)
        have hib := indexB_bad c
        obtain ⟨n, hn⟩ : ∃ n, Lib.indexByte [47, 0] c = n := ⟨_, rfl⟩
        rw [hn] at hix hib
        clear hn
        cases h1 : badB c with
        | false =>
          have ha2 : Hid ((s.take (pos + 1)).any badB = false) := Lib.hid (by rw [take_next s hlt, List.any_append, hal'.out, hc]; simp [h1])
          rw [h1] at hib
          have hn0 : ¬ 0 ≤ n := of_decide_eq_false hib
          clear hc h1 hib
          generalize (c.toNat : Int) = x at *
          go_wp2_with (go_at_call 190; (with_reducible refine Calls.mono (hix.out _) ?_); rintro e w7 ⟨rfl, hw7⟩; obtain rfl := hw7.symm)
          exact ⟨⟨pos + 1, by omega, hit'.out, ha2.out, hb'.out⟩, by rw [hip'.out]; unfold World.iterPos; rw [hit'.out]; simp; omega⟩
        | true =>
          have ha2 : Hid (s.any badB = true) := Lib.hid (by rw [List.any_eq_true]; exact ⟨s[pos], List.getElem_mem hlt, by rw [hc, h1]⟩)
          rw [h1] at hib
          have hn0 : 0 ≤ n := of_decide_eq_true hib
          clear hc h1 hib
          generalize (c.toNat : Int) = x at *
          go_wp2_with (go_at_call 190; (with_reducible refine Calls.mono (hix.out _) ?_); rintro e w7 ⟨rfl, hw7⟩; obtain rfl := hw7.symm)
          go_ret
          exact ⟨⟨_, rfl, by rw [← hb0'.out, ha2.out]; exact decide_eq_true (by omega)⟩, by rw [hg]; exact hb'.out⟩
      · have hhi := decode_high ⟨s.toArray⟩ pos hlt (by have : (⟨s.toArray⟩ : ByteArray)[pos]'hlt = s[pos] := rfl; rw [this]; omega)
        have hle := decode_le ⟨s.toArray⟩ pos
        obtain ⟨hp1, hp2⟩ := any_point s hlt (by omega) hal'.out
        generalize (Utf8.decode ⟨s.toArray⟩ pos).2 = n at *
        have hix := Lib.hid (fun W => indexRune_high ((Utf8.decode ⟨s.toArray⟩ pos).1 : Int) (by omega) (by omega) W)
        generalize ((Utf8.decode ⟨s.toArray⟩ pos).1 : Int) = x at *
        obtain ⟨W1, hW1⟩ : ∃ W1, wr.iterAt g ⟨s.toArray⟩ (pos + n) = W1 := ⟨_, rfl⟩
        rw [hW1] at hnx hbW2 hit2
        have hit' := Lib.hid hit2
        have hb' := Lib.hid hbW2
        have hip' := Lib.hid hip
        have hp1' := Lib.hid hp1
        have hw := hhi.2
        have hgW1 := Lib.hid ((Array.getElem?_eq_some_iff.1 hit2).1)
        clear hW1 hit2 hbW2 hit hip hp1 hhi hh hle
        go_wp2_with (go_at_call 190; (with_reducible refine Calls.mono (hix.out _) ?_); rintro e w7 ⟨rfl, hw7⟩; have hw7' := Lib.hid hw7; clear hw7)
        have hit8 := (hw7'.out.block g hgW1.out).trans hit'.out
        exact ⟨⟨pos + n, hp2, hit8, hp1'.out, hb'.out.trans (hw7'.out.mono (Nat.le_of_lt hgW1.out))⟩, by rw [hip'.out]; unfold World.iterPos; rw [hit8]; simp; omega⟩
    · obtain rfl : pos = s.length := by omega
      have hnx : ∀ ty, (Instr.next (.pointer (some ⟨g, 0, none⟩)) true ty).run Tryz.prog wr = _ := fun ty => Lib.run_next_end_at wr g ⟨s.toArray⟩ s.length ty hit (by show ¬ _ < s.toArray.size; simp)
      have hb' := Lib.hid hb
      clear hb hit hip
      go_wp2
      go_ret
      have := hal'.out
      rw [List.take_length, hb0'.out] at this
      exact ⟨⟨_, rfl, by rw [this]; rfl⟩, by rw [hg]; exact hb'.out⟩
theorem containsAny_any (s : List UInt8) (w : World) (hs : s.length ≤ 600000) : Calls Tryz.prog 164 #[.string ⟨s.toArray⟩, .string ⟨#[47, 0]⟩] w (BoolR (s.any badB) w) := by
  have h0 : Hid (Calls Tryz.prog 179 #[.string ⟨s.toArray⟩, .string ⟨#[47, 0]⟩] w (AnyR (s.any badB) w)) := by
    rcases Nat.lt_or_ge 8 s.length with h | h
    · exact Lib.hid (indexAny_long s w h hs)
    · exact Lib.hid (indexAny_short s w h)
  unfold AnyR at h0
  unfold BoolR
  generalize s.any badB = b at *
  go_enter Tryz.func164, Tryz.ntmps164
  go_wp2_with (go_at_call 179; (with_reducible refine Calls.mono h0.out ?_); rintro e w7 ⟨⟨n, rfl, hn⟩, hb⟩; have hb' := Lib.hid hb; have hn' := Lib.hid hn; clear hb hn)
  go_ret
  exact ⟨by rw [← hn'.out]; rfl, hb'.out⟩
theorem partDots_any (s : List UInt8) (w : World) : Calls Tryz.prog 162 #[.string ⟨s.toArray⟩] w (BoolR (decide (s ≠ [46]) && decide (s ≠ [46, 46])) w) := by
  unfold BoolR
  have e1 : decide (s ≠ [46]) = !(s == [46]) := by by_cases h : s = [46] <;> simp [h]
  have e2 : decide (s ≠ [46, 46]) = !(s == [46, 46]) := by by_cases h : s = [46, 46] <;> simp [h]
  rw [e1, e2]
  clear e1 e2
  obtain ⟨b1, h1⟩ : ∃ b, (s == [46]) = b := ⟨_, rfl⟩
  obtain ⟨b2, h2⟩ : ∃ b, (s == [46, 46]) = b := ⟨_, rfl⟩
  rw [h1, h2]
  cases b1 <;> cases b2
  all_goals
    go_enter Tryz.func162, Tryz.ntmps162
    go_wp2
    go_ret
    exact ⟨rfl, Below.refl _ _⟩
theorem partSigns_any (s : List UInt8) (w : World) (hs : s.length ≤ 600000) : Calls Tryz.prog 163 #[.string ⟨s.toArray⟩] w (BoolR (!s.any badB) w) := by
  have h0 := Lib.hid (containsAny_any s w hs)
  unfold BoolR at h0 ⊢
  generalize s.any badB = b at *
  go_enter Tryz.func163, Tryz.ntmps163
  go_wp2_with (go_at_call 164; (with_reducible refine Calls.mono h0.out ?_); rintro e w7 ⟨rfl, hb⟩; have hb' := Lib.hid hb; clear hb)
  go_ret
  exact ⟨rfl, hb'.out⟩
theorem partB_split (l : List UInt8) : partB l = ((decide (l ≠ [46]) && decide (l ≠ [46, 46])) && !l.any badB) := by
  unfold partB
  congr 1
  rw [List.all_eq_not_any_not]
  congr 1
  congr 1
  funext c
  unfold badB
  by_cases h1 : c = 47 <;> by_cases h2 : c = 0 <;> simp [h1, h2]
end Go.Proofs.YtbmemkbfignlaaaGreatDoor
