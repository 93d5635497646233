import Derived.Test.YtcogdfgmmpfkkaaGreatDoorPk7
import Derived.Test.YtcogdfgmmpfkkaaGreatDoorPk8
import Derived.Lib.OthersKept
import Derived.Laws.RangeAny
namespace Go.Proofs.YtcogdfgmmpfkkaaGreatDoor
open Go.RowKit Go.Shelf Go.Lib
attribute [local go_sem] Oper.semAt_some

/-! ## What a target's text must be -/
theorem prefix_head (s : List UInt8) : Lib.hasPrefix s [47] = decide (s.head? = some 47) := by
  unfold Lib.hasPrefix
  cases s with
  | nil => rfl
  | cons c r =>
    by_cases h : c = 47
    · subst h; simp [List.isPrefixOf]
    · simp [List.isPrefixOf, h]; exact fun e => h e.symm
theorem headT_any (s : List UInt8) (w : World) : Calls Tryz.prog 66 #[.string ⟨s.toArray⟩] w (BoolR (decide (s.head? = some 47)) w) := by
  have h := Lib.hid (Tryz.strings_HasPrefix ⟨s.toArray⟩ ⟨#[47]⟩ w)
  rw [show (⟨s.toArray⟩ : ByteArray).data.toList = s from rfl, show (⟨#[47]⟩ : ByteArray).data.toList = [47] from rfl, prefix_head] at h
  unfold BoolR
  generalize decide (s.head? = some 47) = b at *
  go_enter Tryz.func66, Tryz.ntmps66
  go_wp2_with (go_at_call 67; (with_reducible refine Calls.mono h.out ?_); rintro e w7 ⟨rfl, hw7⟩; obtain rfl := hw7.symm)
  go_ret
  exact ⟨rfl, Below.refl _ _⟩
theorem okB_iff (c : UInt8) : okB c = true ↔ 33 ≤ (c.toNat : Int) ∧ (c.toNat : Int) ≤ 126 ∧ ¬ (c.toNat : Int) = 35 := by
  unfold okB
  have h35 : (35 : UInt8).toNat = 35 := rfl
  have hn : c ≠ 35 ↔ ¬ c.toNat = 35 := by rw [← h35, UInt8.toNat_inj]
  simp only [Bool.and_eq_true, decide_eq_true_eq, hn]
  omega
theorem all_stop {s : List UInt8} {pos : Nat} (h : pos < s.length) (hn : okB s[pos] = false) : s.all okB = false := by
  rw [List.all_eq_false]
  exact ⟨s[pos], List.getElem_mem h, by rw [hn]; decide⟩
theorem all_take {s : List UInt8} {pos : Nat} (h : pos < s.length) (ha : (s.take pos).all okB = true) (hn : okB s[pos] = true) : (s.take (pos + 1)).all okB = true := by
  rw [take_next s h, List.all_append, ha]
  simp [hn]
set_option maxRecDepth 100000 in
set_option maxHeartbeats 4000000 in
theorem signsT_any (s : List UInt8) (w : World) (hs : s.length ≤ 600000) : Calls Tryz.prog 68 #[.string ⟨s.toArray⟩] w (BoolR (s.all okB) w) := by
  obtain ⟨g, hg⟩ : ∃ g, w.heap.size = g := ⟨_, rfl⟩
  obtain ⟨b, hb0⟩ : ∃ b, s.all okB = b := ⟨_, rfl⟩
  have hit0 : Hid ((w.iter ⟨s.toArray⟩ 0).heap[g]? = some (.stringIter ⟨s.toArray⟩ 0)) := Lib.hid (by rw [← hg]; exact World.iter_heap _ _ _)
  have hbl0 : Hid (Below g w (w.iter ⟨s.toArray⟩ 0)) := Lib.hid ((Below.refl _ _).alloc (by omega) _)
  have hb0' := Lib.hid hb0
  rw [hb0]
  clear hb0
  unfold BoolR
  rw [hg]
  go_enter Tryz.func68, Tryz.ntmps68
  go_wp2
  go_loopw [4] (fun _ W => ∃ pos : Nat, pos ≤ s.length ∧ W.heap[g]? = some (.stringIter ⟨s.toArray⟩ pos) ∧ (s.take pos).all okB = true ∧ Below g w W) (fun _ W => s.length - W.iterPos g)
  case atStart => exact ⟨0, Nat.zero_le _, hit0.out, rfl, hbl0.out⟩
  case round =>
    obtain ⟨pos, hpos, hit, hal, hb⟩ := hrel
    have hip : wr.iterPos g = pos := by unfold World.iterPos; rw [hit]
    have hal' := Lib.hid hal
    clear hal hit0 hbl0
    by_cases hlt : pos < s.length
    · have hnx : ∀ ty, (Instr.next (.pointer (some ⟨g, 0, none⟩)) true ty).run Tryz.prog wr = _ := fun ty => Lib.run_next_any_at wr g ⟨s.toArray⟩ pos ty hit hlt
      have hbW2 : Below g w (wr.iterAt g ⟨s.toArray⟩ (pos + (Utf8.decode ⟨s.toArray⟩ pos).2)) := Lib.below_iterAt hb (by omega) _ _
      have hit2 : (wr.iterAt g ⟨s.toArray⟩ (pos + (Utf8.decode ⟨s.toArray⟩ pos).2)).heap[g]? = some (.stringIter ⟨s.toArray⟩ (pos + (Utf8.decode ⟨s.toArray⟩ pos).2)) := Lib.iterAt_heap wr g ⟨s.toArray⟩ pos _ hit
      clear hb
      by_cases hh : s[pos].toNat < 128
      · have hd : Utf8.decode ⟨s.toArray⟩ pos = (s[pos].toNat, 1) := decode_ascii ⟨s.toArray⟩ pos hlt hh
        rw [hd] at hnx hbW2 hit2
        simp only at hnx hbW2 hit2
        obtain ⟨W1, hW1⟩ : ∃ W1, wr.iterAt g ⟨s.toArray⟩ (pos + 1) = W1 := ⟨_, rfl⟩
        rw [hW1] at hnx hbW2 hit2
        have hit' := Lib.hid hit2
        have hb' := Lib.hid hbW2
        have hip' := Lib.hid hip
        clear hd hW1 hit2 hbW2 hit hip
        obtain ⟨c, hc⟩ : ∃ c, s[pos] = c := ⟨_, rfl⟩
        by_cases h1 : okB c = true
        · have ha2 := Lib.hid (all_take hlt hal'.out (by rw [hc]; exact h1))
          obtain ⟨i1, i2, i3⟩ := (okB_iff c).1 h1
          rw [hc] at hnx hh
          have j1 : ¬ (c.toNat : Int) < 33 := by omega
          have j2 : ¬ 126 < (c.toNat : Int) := by omega
          have j3 : ((c.toNat : Int) == 35) = false := beq_eq_false_iff_ne.2 i3
          clear hc h1 i1 i2 i3
          generalize (c.toNat : Int) = x at *
          go_wp2
          exact ⟨⟨pos + 1, by omega, hit'.out, ha2.out, hb'.out⟩, by rw [hip'.out]; unfold World.iterPos; rw [hit'.out]; simp; omega⟩
        · have ha2 := Lib.hid (all_stop hlt (by rw [hc]; simpa using h1))
          have hor : (c.toNat : Int) < 33 ∨ ¬ (c.toNat : Int) < 33 ∧ 126 < (c.toNat : Int) ∨ ¬ (c.toNat : Int) < 33 ∧ ¬ 126 < (c.toNat : Int) ∧ (c.toNat : Int) = 35 := by
            have := mt (okB_iff c).2 h1
            omega
          rw [hc] at hnx hh
          clear hc h1
          generalize (c.toNat : Int) = x at *
          rcases hor with j1 | ⟨j1, j2⟩ | ⟨j1, j2, rfl⟩
          all_goals
            go_wp2
            go_ret
            exact ⟨by rw [← hb0'.out, ha2.out]; rfl, hb'.out⟩
      · have hhi := decode_high ⟨s.toArray⟩ pos hlt (by have : (⟨s.toArray⟩ : ByteArray)[pos]'hlt = s[pos] := rfl; rw [this]; omega)
        have ha2 := Lib.hid (all_stop hlt (by
          rw [Bool.eq_false_iff]
          intro e
          have := (okB_iff s[pos]).1 e
          omega))
        generalize (Utf8.decode ⟨s.toArray⟩ pos).2 = n at *
        have j1 : ¬ ((Utf8.decode ⟨s.toArray⟩ pos).1 : Int) < 33 := by omega
        have j2 : 126 < ((Utf8.decode ⟨s.toArray⟩ pos).1 : Int) := by omega
        generalize ((Utf8.decode ⟨s.toArray⟩ pos).1 : Int) = x at *
        obtain ⟨W1, hW1⟩ : ∃ W1, wr.iterAt g ⟨s.toArray⟩ (pos + n) = W1 := ⟨_, rfl⟩
        rw [hW1] at hnx hbW2 hit2
        have hb' := Lib.hid hbW2
        clear hW1 hit2 hbW2 hit hip hhi hh
        go_wp2
        go_ret
        exact ⟨by rw [← hb0'.out, ha2.out]; rfl, hb'.out⟩
    · obtain rfl : pos = s.length := by omega
      have hnx : ∀ ty, (Instr.next (.pointer (some ⟨g, 0, none⟩)) true ty).run Tryz.prog wr = _ := fun ty => Lib.run_next_end_at wr g ⟨s.toArray⟩ s.length ty hit (by show ¬ _ < s.toArray.size; simp)
      have hb' := Lib.hid hb
      clear hb hit hip
      go_wp2
      go_ret
      have := hal'.out
      rw [List.take_length, hb0'.out] at this
      exact ⟨by rw [this]; rfl, hb'.out⟩
end Go.Proofs.YtcogdfgmmpfkkaaGreatDoor
