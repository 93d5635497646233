import Derived.Test.YtfblkfjjpnnhhaaDoorC
import Derived.Test.YtfblkfjjpnnhhaaDoorS
namespace Go.Proofs.YtfblkfjjpnnhhaaDoor
open Go.RowKit

/-- A queue of this room in which these bytes wait; its row lies in block r. -/
def Qu (W : World) (g r room : Nat) (bs : List UInt8) : Prop := ∃ A cs s, Que W g r A cs s bs.length room ∧ rb cs s bs.length = bs
theorem Qu.kept {W W' : World} {g r room : Nat} {bs : List UInt8} (h : Qu W g r room bs) (hg : W'.heap[g]? = W.heap[g]?) (hr : W'.heap[r]? = W.heap[r]?) : Qu W' g r room bs := by
  obtain ⟨A, cs, s, h, e⟩ := h
  exact ⟨A, cs, s, h.kept hg (fun _ => hr), e⟩
theorem Qu.below {W W' : World} {g r room : Nat} {bs : List UInt8} (h : Qu W g r room bs) (hb : Below W.heap.size W W') : Qu W' g r room bs := by
  obtain ⟨A, cs, s, h, e⟩ := h
  exact ⟨A, cs, s, h.below hb, e⟩
theorem Qu.lt {W : World} {g r room : Nat} {bs : List UInt8} (h : Qu W g r room bs) : g < W.heap.size := by
  obtain ⟨A, cs, s, h, e⟩ := h
  exact h.lt
theorem Qu.small {W : World} {g r room : Nat} {bs : List UInt8} (h : Qu W g r room bs) : bs.length ≤ room ∧ room ≤ 1048576 := by
  obtain ⟨A, cs, s, h, e⟩ := h
  exact ⟨Nat.le_trans h.count h.fits, h.small⟩
theorem Qu.c2 {W : World} {g r room : Nat} {bs : List UInt8} (h : Qu W g r room bs) : W.cell? ⟨g, 2, none⟩ = some (.int .i64 (bs.length : Int)) := by
  obtain ⟨A, cs, s, h, e⟩ := h
  exact h.c2
theorem Qu.c3 {W : World} {g r room : Nat} {bs : List UInt8} (h : Qu W g r room bs) : W.cell? ⟨g, 3, none⟩ = some (.int .i64 (room : Int)) := by
  obtain ⟨A, cs, s, h, e⟩ := h
  exact h.c3
theorem Qu.c4 {W : World} {g r room : Nat} {bs : List UInt8} (h : Qu W g r room bs) : W.cell? ⟨g, 4, none⟩ = some (.bool true) := by
  obtain ⟨A, cs, s, h, e⟩ := h
  exact h.c4
/-- No queue: none at all, or one that New did not make. -/
def NoQ (W : World) (v : Option Addr) : Prop := v = none ∨ ∃ g, v = some ⟨g, 0, none⟩ ∧ W.cell? ⟨g, 4, none⟩ = some (.bool false)

theorem none_no (g : Nat) (w : World) (c4 : w.cell? ⟨g, 4, none⟩ = some (.bool true)) :
    Calls Tryd.prog 24 #[.pointer (some ⟨g, 0, none⟩)] w fun e w' => e = .returned (.bool false) ∧ w = w' := by
  go_enter Tryd.func24, Tryd.ntmps24
  go_wp2
  go_ret
  exact ⟨rfl, rfl⟩
theorem none_yes (v : Option Addr) (w : World) (h : NoQ w v) :
    Calls Tryd.prog 24 #[.pointer v] w fun e w' => e = .returned (.bool true) ∧ w = w' := by
  rcases h with rfl | ⟨g, rfl, c4⟩
  all_goals
    go_enter Tryd.func24, Tryd.ntmps24
    go_wp2
    go_ret
    exact ⟨rfl, rfl⟩
theorem len_any (g r room : Nat) (bs : List UInt8) (w : World) (h : Qu w g r room bs) :
    Calls Tryd.prog 20 #[.pointer (some ⟨g, 0, none⟩)] w fun e w' => e = .returned (.int .i64 (bs.length : Int)) ∧ w = w' := by
  have c2 := h.c2
  have hn := none_no g w h.c4
  have hn := Lib.hid hn
  clear h
  go_enter Tryd.func20, Tryd.ntmps20
  go_wp2_with (go_at_call 24; refine hn.out.mono ?_; rintro e w' ⟨rfl, rfl⟩)
  go_ret
  exact ⟨rfl, rfl⟩
theorem len_none (v : Option Addr) (w : World) (h : NoQ w v) :
    Calls Tryd.prog 20 #[.pointer v] w fun e w' => e = .returned (.int .i64 0) ∧ w = w' := by
  have hn := Lib.hid (none_yes v w h)
  clear h
  go_enter Tryd.func20, Tryd.ntmps20
  go_wp2_with (go_at_call 24; refine hn.out.mono ?_; rintro e w' ⟨rfl, rfl⟩)
  go_ret
  exact ⟨rfl, rfl⟩
theorem room_any (g r room : Nat) (bs : List UInt8) (w : World) (h : Qu w g r room bs) :
    Calls Tryd.prog 21 #[.pointer (some ⟨g, 0, none⟩)] w fun e w' => e = .returned (.int .i64 ((room - bs.length : Nat) : Int)) ∧ ∃ q, w' = w.drewN q := by
  have c2 := h.c2
  have c3 := h.c3
  have hs := h.small
  have hn := Lib.hid (none_no g w h.c4)
  clear h
  go_enter Tryd.func21, Tryd.ntmps21
  go_wp2_with (go_at_call 24; refine hn.out.mono ?_; rintro e w' ⟨rfl, rfl⟩)
  go_quiet (fail)
  go_wp2
  go_ret
  exact ⟨ret_int (by omega), _, rfl⟩
theorem room_none (v : Option Addr) (w : World) (h : NoQ w v) :
    Calls Tryd.prog 21 #[.pointer v] w fun e w' => e = .returned (.int .i64 0) ∧ w = w' := by
  have hn := Lib.hid (none_yes v w h)
  clear h
  go_enter Tryd.func21, Tryd.ntmps21
  go_wp2_with (go_at_call 24; refine hn.out.mono ?_; rintro e w' ⟨rfl, rfl⟩)
  go_ret
  exact ⟨rfl, rfl⟩

/-! ## Take, Peek, Drop -/
theorem two_ret {a b a' b' : Value} (h : a = a') (k : b = b') : Ending.returned (.tuple #[a, b]) = .returned (.tuple #[a', b']) := by rw [h, k]
theorem asked_none (v : Option Addr) (m : Int) (w : World) (h : NoQ w v) :
    Calls Tryd.prog 27 #[.pointer v, .int .i64 m] w fun e w' => e = .returned (.tuple #[.int .i64 0, .int .i64 1]) ∧ w = w' := by
  have hn := Lib.hid (none_yes v w h)
  clear h
  go_enter Tryd.func27, Tryd.ntmps27
  go_wp2
  refine wp_scope_on 0 rfl ?_
  go_wp2_with (go_at_call 24; refine hn.out.mono ?_; rintro e w' ⟨rfl, rfl⟩)
  go_step3
  refine ⟨rfl, ?_⟩
  go_wp2
  rw [Exit.noGoto_ret]
  go_ret2
  exact ⟨rfl, rfl⟩
theorem asked_neg (g : Nat) (m : Int) (w : World) (c4 : w.cell? ⟨g, 4, none⟩ = some (.bool true)) (hm : m < 0) :
    Calls Tryd.prog 27 #[.pointer (some ⟨g, 0, none⟩), .int .i64 m] w fun e w' => e = .returned (.tuple #[.int .i64 0, .int .i64 2]) ∧ w = w' := by
  have hn := Lib.hid (none_no g w c4)
  clear c4
  go_enter Tryd.func27, Tryd.ntmps27
  go_wp2
  refine wp_scope_on 0 rfl ?_
  go_wp2_with (go_at_call 24; refine hn.out.mono ?_; rintro e w' ⟨rfl, rfl⟩)
  go_step3
  go_wp2
  refine ⟨rfl, ?_⟩
  go_wp2
  rw [Exit.noGoto_ret]
  go_ret2
  exact ⟨rfl, rfl⟩
theorem asked_any (g r room : Nat) (bs : List UInt8) (m : Int) (w : World) (h : Qu w g r room bs) (hm : 0 ≤ m) :
    Calls Tryd.prog 27 #[.pointer (some ⟨g, 0, none⟩), .int .i64 m] w fun e w' => e = .returned (.tuple #[.int .i64 ((min m.toNat bs.length : Nat) : Int), .int .i64 0]) ∧ w = w' := by
  have hn := Lib.hid (none_no g w h.c4)
  have c2 := h.c2
  have hs := h.small
  clear h
  by_cases hd : m ≤ (bs.length : Int)
  · go_enter Tryd.func27, Tryd.ntmps27
    go_wp2
    refine wp_scope_on 0 rfl ?_
    go_wp2_with (go_at_call 24; refine hn.out.mono ?_; rintro e w' ⟨rfl, rfl⟩)
    rw [jump_ret]
    go_ret2
    exact ⟨two_ret (by rw [show ((min m.toNat bs.length : Nat) : Int) = m from by omega]; rfl) rfl, rfl⟩
  · have hd' : (bs.length : Int) < m := by omega
    clear hd
    go_enter Tryd.func27, Tryd.ntmps27
    go_wp2
    refine wp_scope_on 0 rfl ?_
    go_wp2_with (go_at_call 24; refine hn.out.mono ?_; rintro e w' ⟨rfl, rfl⟩)
    rw [jump_ret]
    go_ret2
    exact ⟨two_ret (by rw [show ((min m.toNat bs.length : Nat) : Int) = bs.length from by omega]; rfl) rfl, rfl⟩


section
variable (g r room : Nat) (bs : List UInt8) (m : Int) (w : World)
/-- What Take leaves. -/
def Took (e : Ending) (w' : World) : Prop := ∃ b, e = .returned (.tuple #[.slice (some ⟨b, 0, none⟩) (bs.take m.toNat).length (bs.take m.toNat).length, .int .i64 0]) ∧ Has w' b 5 (byts (bs.take m.toNat)).toArray ∧ w.heap.size ≤ b ∧ Qu w' g r room (bs.drop m.toNat) ∧ Turn g r w w'
def Peeked (e : Ending) (w' : World) : Prop := ∃ b, e = .returned (.tuple #[.slice (some ⟨b, 0, none⟩) (bs.take m.toNat).length (bs.take m.toNat).length, .int .i64 0]) ∧ Has w' b 5 (byts (bs.take m.toNat)).toArray ∧ w.heap.size ≤ b ∧ Below w.heap.size w w'
def Dropped (e : Ending) (w' : World) : Prop := e = .returned (.tuple #[.int .i64 ((bs.take m.toNat).length : Int), .int .i64 0]) ∧ Qu w' g r room (bs.drop m.toNat) ∧ Turn g r w w' ∧ w'.heap.size = w.heap.size
theorem qu_drop {g r room : Nat} {bs : List UInt8} {A : Option Addr} {cs : List UInt8} {s : Nat} {w' : World} {m : Nat} (hr : rb cs s bs.length = bs) (hst : s < cs.length ∨ s = 0) (hcnt : bs.length ≤ cs.length)
    (h : Que w' g r A cs (idx cs.length s (min m bs.length)) (bs.length - min m bs.length) room) : Qu w' g r room (bs.drop m) := by
  have e : bs.drop m = rb cs (idx cs.length s (min m bs.length)) (bs.length - min m bs.length) := by
    rw [← rb_drop hst (Nat.min_le_right _ _) hcnt, hr]
    rcases Nat.le_total m bs.length with hm | hm
    · rw [Nat.min_eq_left hm]
    · rw [Nat.min_eq_right hm, List.drop_of_length_le hm, List.drop_length]
  have hl : (bs.drop m).length = bs.length - min m bs.length := by rw [List.length_drop]; omega
  refine ⟨A, cs, idx cs.length s (min m bs.length), ?_, ?_⟩
  · rw [hl]; exact h
  · rw [hl]; exact e.symm
theorem take_len (bs : List UInt8) (m : Nat) : (bs.take m).length = min m bs.length := List.length_take ..
theorem rb_takes {cs bs : List UInt8} {s m : Nat} (hr : rb cs s bs.length = bs) : rb cs s (min m bs.length) = bs.take m := by
  rw [← rb_take cs s (Nat.min_le_right m bs.length), hr]
  rcases Nat.le_total m bs.length with hm | hm
  · rw [Nat.min_eq_left hm]
  · rw [Nat.min_eq_right hm, List.take_of_length_le hm, List.take_length]

theorem peek_any (h : Qu w g r room bs) (hm : 0 ≤ m) :
    Calls Tryd.prog 16 #[.pointer (some ⟨g, 0, none⟩), .int .i64 m] w (Peeked bs m w) := by
  have ha := Lib.hid (asked_any g r room bs m w h hm)
  obtain ⟨A, cs, s, hq, hr⟩ := h
  have hf := Lib.hid (first_any g r A cs s bs.length (min m.toNat bs.length) w hq.stk (by omega))
  have hr' := Lib.hid hr
  clear hr hq
  go_enter Tryd.func16, Tryd.ntmps16
  go_wp2_with (first | (go_at_call 27; refine ha.out.mono ?_; rintro e w' ⟨rfl, rfl⟩) | (go_at_call 28; refine hf.out.mono ?_; rintro e w' ⟨rfl, m2, hB2, z2⟩; have m2' := Lib.hid m2; have z2' := Lib.hid z2; clear m2 z2))
  go_ret2
  refine ⟨w.heap.size, ?_, ?_, Nat.le_refl _, hB2⟩
  · exact two_ret (by rw [take_len]; rfl) rfl
  · rw [← rb_takes hr'.out]; exact m2'.out

theorem drop_call (h : Qu w g r room bs) (hm : 0 ≤ m) :
    Calls Tryd.prog 17 #[.pointer (some ⟨g, 0, none⟩), .int .i64 m] w (Dropped g r room bs m w) := by
  have ha := Lib.hid (asked_any g r room bs m w h hm)
  obtain ⟨A, cs, s, hq, hr⟩ := h
  have hd := Lib.hid (drop_any g r A cs s bs.length room (min m.toNat bs.length) w hq (by omega))
  have hr' := Lib.hid hr
  have hcnt := hq.count
  have hst := hq.start
  clear hr hq
  go_enter Tryd.func17, Tryd.ntmps17
  go_wp2_with (first | (go_at_call 27; refine ha.out.mono ?_; rintro e w' ⟨rfl, rfl⟩) | (go_at_call 29; refine hd.out.mono ?_; rintro e w' ⟨rfl, q2, o2⟩; have q2' := Lib.hid q2; clear q2; have o2' := Lib.hid o2; clear o2))
  go_ret2
  exact ⟨two_ret (by rw [take_len]; rfl) rfl, qu_drop hr'.out hst hcnt q2'.out, turn_of_only o2'.out, o2'.out.size⟩
theorem take_any (h : Qu w g r room bs) (hm : 0 ≤ m) :
    Calls Tryd.prog 15 #[.pointer (some ⟨g, 0, none⟩), .int .i64 m] w (Took g r room bs m w) := by
  have ha := Lib.hid (asked_any g r room bs m w h hm)
  obtain ⟨A, cs, s, hq, hr⟩ := h
  have hf := Lib.hid (first_any g r A cs s bs.length (min m.toNat bs.length) w hq.stk (by omega))
  have hq' := Lib.hid hq
  have hr' := Lib.hid hr
  have hcnt := hq.count
  have hst := hq.start
  have hlt := Lib.hid hq.lt
  clear hr hq
  go_enter Tryd.func15, Tryd.ntmps15
  go_wp2_with (first | (go_at_call 27; refine ha.out.mono ?_; rintro e w' ⟨rfl, rfl⟩) | (go_at_call 28; refine hf.out.mono ?_; rintro e w' ⟨rfl, m2, hB2, z2⟩; have m2' := Lib.hid m2; have z2' := Lib.hid z2; have hB2' := Lib.hid hB2; clear m2 z2 hB2) |
    (go_at_call 29; refine (drop_any g r A cs s bs.length room (min m.toNat bs.length) _ (hq'.out.below hB2'.out) (by omega)).mono ?_; rintro e w3 ⟨rfl, q2, o2⟩; have q2' := Lib.hid q2; clear q2; have o2' := Lib.hid o2; clear o2))
  go_ret2
  refine ⟨w.heap.size, two_ret (by rw [take_len]; rfl) rfl, ?_, Nat.le_refl _, qu_drop hr'.out hst hcnt q2'.out, ?_⟩
  · rw [← rb_takes hr'.out]
    exact o2'.out.has m2'.out (by have := hlt.out; omega)
  · exact (turn_of_below hB2'.out).only o2'.out
end
/-- What each of the three answers where there is no queue, or fewer bytes than none are asked for. -/
theorem take_no (v : Option Addr) (m : Int) (k : Int) (hk : k = 1 ∨ k = 2) (w : World) (ha : Calls Tryd.prog 27 #[.pointer v, .int .i64 m] w fun e w' => e = .returned (.tuple #[.int .i64 0, .int .i64 k]) ∧ w = w') :
    Calls Tryd.prog 15 #[.pointer v, .int .i64 m] w (fun e w' => e = .returned (.tuple #[.slice none 0 0, .int .i64 k]) ∧ w = w') ∧
    Calls Tryd.prog 16 #[.pointer v, .int .i64 m] w (fun e w' => e = .returned (.tuple #[.slice none 0 0, .int .i64 k]) ∧ w = w') ∧
    Calls Tryd.prog 17 #[.pointer v, .int .i64 m] w (fun e w' => e = .returned (.tuple #[.int .i64 0, .int .i64 k]) ∧ w = w') := by
  have ha := Lib.hid ha
  rcases hk with rfl | rfl
  all_goals
    refine ⟨?_, ?_, ?_⟩
    · go_enter Tryd.func15, Tryd.ntmps15
      go_wp2_with (go_at_call 27; refine ha.out.mono ?_; rintro e w' ⟨rfl, rfl⟩)
      go_ret2
      exact ⟨rfl, rfl⟩
    · go_enter Tryd.func16, Tryd.ntmps16
      go_wp2_with (go_at_call 27; refine ha.out.mono ?_; rintro e w' ⟨rfl, rfl⟩)
      go_ret2
      exact ⟨rfl, rfl⟩
    · go_enter Tryd.func17, Tryd.ntmps17
      go_wp2_with (go_at_call 27; refine ha.out.mono ?_; rintro e w' ⟨rfl, rfl⟩)
      go_ret2
      exact ⟨rfl, rfl⟩
end Go.Proofs.YtfblkfjjpnnhhaaDoor
