import Derived.Test.YtfblkfjjpnnhhaaDoorB
namespace Go.Proofs.YtfblkfjjpnnhhaaDoor
open Go.RowKit

/-- What put leaves. -/
def Puts (g r : Nat) (A : Option Addr) (cs : List UInt8) (s k room : Nat) (x : List UInt8) (w : World) (e : Ending) (w' : World) : Prop :=
  e = .returned (.tuple #[]) ∧ w'.heap.size = w.heap.size ∧ Turn g r w w' ∧ ∃ cs', cs'.length = cs.length ∧ rb cs' s (k + x.length) = rb cs s k ++ x ∧ Que w' g r A cs' s (k + x.length) room
set_option maxHeartbeats 400000 in
theorem put_all (g r : Nat) (A : Option Addr) (cs : List UInt8) (s k room : Nat) (B : Option Addr) (x : List UInt8) (c : Nat) (S : Nat → Prop) (w : World) (h : Que w g r A cs s k room) (hx : Rd w S B x) (hS : ¬ S r) (hpos : 0 < cs.length) (hc : x.length ≤ c) (hc2 : c ≤ 9223372036854775807) (hk : k + x.length ≤ cs.length) (hcase : x.length ≤ cs.length - idx cs.length s k) :
    Calls Tryd.prog 33 #[.pointer (some ⟨g, 0, none⟩), .slice B x.length c] w (Puts g r A cs s k room x w) := by
  have c0 := h.c0
  have c1 := h.c1
  have c2 := h.c2
  have hsm := h.small
  have hf := h.fits
  have hst := h.start
  have hne := h.ne hpos
  generalize hat : idx cs.length s k = at_ at hcase
  have hatl : at_ ≤ cs.length := by rw [← hat]; exact idx_le (by omega) (by omega)
  have hat' := Lib.hid hat
  clear hat
  have hcase' : (x.length : Int) ≤ (cs.length : Int) - (at_ : Int) := by omega
  go_enter Tryd.func33, Tryd.ntmps33
  go_wp2_with fail
  refine (index_any g cs.length A cs.length s k w c0 c1 (by omega) (by omega)).mono ?_
  rintro e w' ⟨rfl, rfl⟩
  rw [hat'.out]
  go_wp2
  have hcut : Hid (x.length = min x.length (cs.length - at_)) := by show _ = _; omega
  have hcx : x.length ≤ x.length := by have := hcut.out; omega
  have hcn : x.length ≤ cs.length - at_ := by have := hcut.out; omega
  have hcx' : ((x.length : Nat) : Int) ≤ (x.length : Int) := by omega
  have hcc' : ((x.length : Nat) : Int) ≤ (c : Int) := by omega
  have hlc' : ((x.length : Nat) : Int) ≤ (c : Int) := by omega
  refine wp_region_still_tail 10 (by kernel_rfl) (by kernel_rfl) ?_
  simp only [List.take_succ_cons, List.take_zero, List.drop_succ_cons, List.drop_zero]
  change wpStill _ _ (World.drew _) (fun a' => wpList _ _ _ _ a' (World.drew _)) _ _
  have h1 : Hid (Que w.drew g r A cs s k room) := h.kept rfl (fun _ => rfl)
  have hx1 : Hid (Rd w.drew S B x) := hx
  have hT : Hid (Turn g r w w.drew) := (Turn.refl g r w).drew
  have hz : Hid (w.drew.heap.size = w.heap.size) := (rfl : _ = _)
  generalize w.drew = w1 at h1 hx1 hT hz ⊢
  have d0 := h1.out.c0
  clear c0 c1 c2
  have hatl' : (at_ : Int) ≤ (cs.length : Int) := by omega
  repeat still_step
  refine wpStill_nil ?_
  have hl1 : Hid ((x.take (x.length)).length = x.length) := by show _ = _; rw [List.length_take]; omega
  have hA : Hid (A = some ⟨r, 0, none⟩) := (h1.out.row hpos).1
  have hr1 : Hid (Has w1 r 5 (byts cs).toArray) := (h1.out.row hpos).2
  refine wpList_copy_bytes rfl (.tmp 27) (.tmp 31) 30 30 rfl 5 Tryd.underlying30 size8 _ _ _ _ _ _ rfl rfl r at_ cs 5 hr1.out (x.take (x.length))
    (by rw [hl1.out]; exact (Nat.min_eq_left hcn).symm) (fun h0 => by rw [if_neg (by rw [hl1.out] at h0; omega), hA.out]; simp [add_zero_]) S (hx1.out.take _) (by rw [hl1.out]; omega) ?_
  intro w2 m2 o2
  rw [hl1.out]
  have b2 : Hid (Has w2 g _ _) := o2.has h1.out.blk hne.symm
  have d2 : w2.cell? ⟨g, 0, none⟩ = some (.slice A cs.length cs.length) := b2.out.cell 0
  have hx2 : Hid (Rd w2 S B x) := hx1.out.kept (fun k hk => o2.block k (fun e => hS (e ▸ hk)))
  have hT2 : Hid (Turn g r w w2) := hT.out.only' o2
  have hz2 : Hid (w2.heap.size = w.heap.size) := o2.size.trans hz.out
  have m2' := Lib.hid m2
  generalize (if cs.length = at_ then A else Option.map (fun x => x.add at_) A) = A2
  clear d0 hT hx1 hr1 hz o2 m2
  go_wp2
  refine wp_region_still_tail 11 (by kernel_rfl) (by kernel_rfl) ?_
  simp only [List.take_succ_cons, List.take_zero, List.drop_succ_cons, List.drop_zero]
  change wpStill _ _ (World.drew _) (fun a' => wpList _ _ _ _ a' (World.drew _)) _ _
  have b3 : Hid (Has w2.drew g _ _) := b2.out
  have hx3 : Hid (Rd w2.drew S B x) := hx2.out
  have hT3 : Hid (Turn g r w w2.drew) := hT2.out.drew
  have hz3 : Hid (w2.drew.heap.size = w.heap.size) := hz2.out
  have m3 : Hid (Has w2.drew r _ _) := m2'.out
  have d3 : w2.drew.cell? ⟨g, 0, none⟩ = some (.slice A cs.length cs.length) := d2
  generalize w2.drew = w3 at b3 hx3 hT3 hz3 m3 d3 ⊢
  clear d2 b2 hx2 hT2 hz2 m2'
  repeat still_step
  refine wpStill_nil ?_
  have hl2 : Hid ((x.drop (x.length)).length = x.length - x.length) := by show _ = _; rw [List.length_drop]
  have hl3 : Hid ((splice cs at_ (x.take (x.length))).length = cs.length) := by show _ = _; rw [length_splice _ _ _ (by rw [hl1.out]; omega)]
  have hrest : x.length - x.length ≤ cs.length := by omega
  refine wpList_copy_bytes rfl (.tmp 36) (.tmp 43) 30 30 rfl 5 Tryd.underlying30 size8 _ _ _ _ _ _ rfl rfl r 0 (splice cs at_ (x.take (x.length))) 5 m3.out (x.drop (x.length))
    (by rw [hl2.out]; first | exact (Nat.min_eq_left hrest).symm | (show _ = Nat.min 0 _; simp)) (fun h0 => by first | exact hA.out | rfl) S (by first | exact hx3.out.drop _ _ (Nat.le_refl _) | (refine Rd.mono (S := S) ?_ (fun _ h => h); intro h0; rw [hl2.out] at h0; omega)) (by rw [hl2.out, hl3.out]; omega) ?_
  intro w4 m4 o4
  rw [hl2.out]
  have b4 : Hid (Has w4 g _ _) := o4.has b3.out hne.symm
  have c2 : w4.cell? ⟨g, 2, none⟩ = some (.int .i64 (k : Int)) := b4.out.cell 2
  have f2 : w4.frozen? ⟨g, 2, none⟩ = false := b4.out.free 2
  have hT4 : Hid (Turn g r w w4) := hT3.out.only' o4
  have hz4 : Hid (w4.heap.size = w.heap.size) := o4.size.trans hz3.out
  have m4' := Lib.hid m4
  clear hx3 hT3 b3 m3 d3 hz3 m4 o4
  go_wp2
  go_end0
  have hp := rb_put (cs := cs) (x := x) (s := s) (k := k) (at_ := at_) (cut := x.length) hst hk hat'.out.symm hcut.out
  rw [show (k : Int) + (x.length : Int) = ((k + x.length : Nat) : Int) from by omega]
  refine ⟨rfl, by simp [hz4.out], hT4.out.only (only_setCell g 2 _ _), splice (splice cs at_ (x.take (x.length))) 0 (x.drop (x.length)), hp.1, hp.2, ?_, ?_, ?_, ?_, ?_, ?_, ?_⟩
  · rw [hp.1]; exact b4.out.put 2 _
  · exact fun _ => ⟨hA.out, m4'.out.other hne _⟩
  · exact fun _ => hne
  · rw [hp.1]; exact hst
  · rw [hp.1]; exact hk
  · rw [hp.1]; exact hf
  · exact hsm
set_option maxHeartbeats 400000 in
theorem put_some (g r : Nat) (A : Option Addr) (cs : List UInt8) (s k room : Nat) (B : Option Addr) (x : List UInt8) (c : Nat) (S : Nat → Prop) (w : World) (h : Que w g r A cs s k room) (hx : Rd w S B x) (hS : ¬ S r) (hpos : 0 < cs.length) (hc : x.length ≤ c) (hc2 : c ≤ 9223372036854775807) (hk : k + x.length ≤ cs.length) (hcase : cs.length - idx cs.length s k < x.length) :
    Calls Tryd.prog 33 #[.pointer (some ⟨g, 0, none⟩), .slice B x.length c] w (Puts g r A cs s k room x w) := by
  have c0 := h.c0
  have c1 := h.c1
  have c2 := h.c2
  have hsm := h.small
  have hf := h.fits
  have hst := h.start
  have hne := h.ne hpos
  generalize hat : idx cs.length s k = at_ at hcase
  have hatl : at_ ≤ cs.length := by rw [← hat]; exact idx_le (by omega) (by omega)
  have hat' := Lib.hid hat
  clear hat
  have hcase' : (cs.length : Int) - (at_ : Int) < (x.length : Int) := by omega
  go_enter Tryd.func33, Tryd.ntmps33
  go_wp2_with fail
  refine (index_any g cs.length A cs.length s k w c0 c1 (by omega) (by omega)).mono ?_
  rintro e w' ⟨rfl, rfl⟩
  rw [hat'.out]
  go_wp2
  obtain ⟨d, hd⟩ : ∃ d : Nat, d = cs.length - at_ := ⟨_, rfl⟩
  rw [show (cs.length : Int) - (at_ : Int) = (d : Int) from by omega]
  have hcut : Hid (d = min x.length (cs.length - at_)) := by show _ = _; omega
  have hcx : d ≤ x.length := by have := hcut.out; omega
  have hcn : d ≤ cs.length - at_ := by have := hcut.out; omega
  clear hd
  have hcx' : ((d : Nat) : Int) ≤ (x.length : Int) := by omega
  have hcc' : ((d : Nat) : Int) ≤ (c : Int) := by omega
  have hlc' : ((x.length : Nat) : Int) ≤ (c : Int) := by omega
  refine wp_region_still_tail 10 (by kernel_rfl) (by kernel_rfl) ?_
  simp only [List.take_succ_cons, List.take_zero, List.drop_succ_cons, List.drop_zero]
  change wpStill _ _ (World.drew _) (fun a' => wpList _ _ _ _ a' (World.drew _)) _ _
  have h1 : Hid (Que w.drew g r A cs s k room) := h.kept rfl (fun _ => rfl)
  have hx1 : Hid (Rd w.drew S B x) := hx
  have hT : Hid (Turn g r w w.drew) := (Turn.refl g r w).drew
  have hz : Hid (w.drew.heap.size = w.heap.size) := (rfl : _ = _)
  generalize w.drew = w1 at h1 hx1 hT hz ⊢
  have d0 := h1.out.c0
  clear c0 c1 c2
  have hatl' : (at_ : Int) ≤ (cs.length : Int) := by omega
  repeat still_step
  refine wpStill_nil ?_
  have hl1 : Hid ((x.take (d)).length = d) := by show _ = _; rw [List.length_take]; omega
  have hA : Hid (A = some ⟨r, 0, none⟩) := (h1.out.row hpos).1
  have hr1 : Hid (Has w1 r 5 (byts cs).toArray) := (h1.out.row hpos).2
  refine wpList_copy_bytes rfl (.tmp 27) (.tmp 31) 30 30 rfl 5 Tryd.underlying30 size8 _ _ _ _ _ _ rfl rfl r at_ cs 5 hr1.out (x.take (d))
    (by rw [hl1.out]; exact (Nat.min_eq_left hcn).symm) (fun h0 => by rw [if_neg (by rw [hl1.out] at h0; omega), hA.out]; simp [add_zero_]) S (hx1.out.take _) (by rw [hl1.out]; omega) ?_
  intro w2 m2 o2
  rw [hl1.out]
  have b2 : Hid (Has w2 g _ _) := o2.has h1.out.blk hne.symm
  have d2 : w2.cell? ⟨g, 0, none⟩ = some (.slice A cs.length cs.length) := b2.out.cell 0
  have hx2 : Hid (Rd w2 S B x) := hx1.out.kept (fun k hk => o2.block k (fun e => hS (e ▸ hk)))
  have hT2 : Hid (Turn g r w w2) := hT.out.only' o2
  have hz2 : Hid (w2.heap.size = w.heap.size) := o2.size.trans hz.out
  have m2' := Lib.hid m2
  generalize (if cs.length = at_ then A else Option.map (fun x => x.add at_) A) = A2
  clear d0 hT hx1 hr1 hz o2 m2
  go_wp2
  refine wp_region_still_tail 11 (by kernel_rfl) (by kernel_rfl) ?_
  simp only [List.take_succ_cons, List.take_zero, List.drop_succ_cons, List.drop_zero]
  change wpStill _ _ (World.drew _) (fun a' => wpList _ _ _ _ a' (World.drew _)) _ _
  have b3 : Hid (Has w2.drew g _ _) := b2.out
  have hx3 : Hid (Rd w2.drew S B x) := hx2.out
  have hT3 : Hid (Turn g r w w2.drew) := hT2.out.drew
  have hz3 : Hid (w2.drew.heap.size = w.heap.size) := hz2.out
  have m3 : Hid (Has w2.drew r _ _) := m2'.out
  have d3 : w2.drew.cell? ⟨g, 0, none⟩ = some (.slice A cs.length cs.length) := d2
  generalize w2.drew = w3 at b3 hx3 hT3 hz3 m3 d3 ⊢
  clear d2 b2 hx2 hT2 hz2 m2'
  repeat still_step
  refine wpStill_nil ?_
  have hl2 : Hid ((x.drop (d)).length = x.length - d) := by show _ = _; rw [List.length_drop]
  have hl3 : Hid ((splice cs at_ (x.take (d))).length = cs.length) := by show _ = _; rw [length_splice _ _ _ (by rw [hl1.out]; omega)]
  have hrest : x.length - d ≤ cs.length := by omega
  refine wpList_copy_bytes rfl (.tmp 36) (.tmp 43) 30 30 rfl 5 Tryd.underlying30 size8 _ _ _ _ _ _ rfl rfl r 0 (splice cs at_ (x.take (d))) 5 m3.out (x.drop (d))
    (by rw [hl2.out]; first | exact (Nat.min_eq_left hrest).symm | (show _ = Nat.min 0 _; simp)) (fun h0 => by first | exact hA.out | rfl) S (by first | exact hx3.out.drop _ _ (Nat.le_refl _) | (refine Rd.mono (S := S) ?_ (fun _ h => h); intro h0; rw [hl2.out] at h0; omega)) (by rw [hl2.out, hl3.out]; omega) ?_
  intro w4 m4 o4
  rw [hl2.out]
  have b4 : Hid (Has w4 g _ _) := o4.has b3.out hne.symm
  have c2 : w4.cell? ⟨g, 2, none⟩ = some (.int .i64 (k : Int)) := b4.out.cell 2
  have f2 : w4.frozen? ⟨g, 2, none⟩ = false := b4.out.free 2
  have hT4 : Hid (Turn g r w w4) := hT3.out.only' o4
  have hz4 : Hid (w4.heap.size = w.heap.size) := o4.size.trans hz3.out
  have m4' := Lib.hid m4
  clear hx3 hT3 b3 m3 d3 hz3 m4 o4
  go_wp2
  go_end0
  have hp := rb_put (cs := cs) (x := x) (s := s) (k := k) (at_ := at_) (cut := d) hst hk hat'.out.symm hcut.out
  rw [show (k : Int) + (x.length : Int) = ((k + x.length : Nat) : Int) from by omega]
  refine ⟨rfl, by simp [hz4.out], hT4.out.only (only_setCell g 2 _ _), splice (splice cs at_ (x.take (d))) 0 (x.drop (d)), hp.1, hp.2, ?_, ?_, ?_, ?_, ?_, ?_, ?_⟩
  · rw [hp.1]; exact b4.out.put 2 _
  · exact fun _ => ⟨hA.out, m4'.out.other hne _⟩
  · exact fun _ => hne
  · rw [hp.1]; exact hst
  · rw [hp.1]; exact hk
  · rw [hp.1]; exact hf
  · exact hsm
set_option maxHeartbeats 400000 in
theorem put_none (g r : Nat) (A : Option Addr) (room : Nat) (B : Option Addr) (c : Nat) (w : World) (h : Que w g r A [] 0 0 room) :
    Calls Tryd.prog 33 #[.pointer (some ⟨g, 0, none⟩), .slice B 0 c] w (Puts g r A [] 0 0 room [] w) := by
  have c0 := h.c0
  have c1 := h.c1
  have c2 := h.c2
  have f2 := h.blk.free 2
  go_enter Tryd.func33, Tryd.ntmps33
  go_wp2_with fail
  refine (index_any g 0 A 0 0 0 w c0 c1 (by omega) (by omega)).mono ?_
  rintro e w' ⟨rfl, rfl⟩
  rw [show idx 0 0 0 = 0 from rfl]
  go_wp2
  refine wp_region_still_tail 10 (by kernel_rfl) (by kernel_rfl) ?_
  simp only [List.take_succ_cons, List.take_zero, List.drop_succ_cons, List.drop_zero]
  change wpStill _ _ (World.drew _) (fun a' => wpList _ _ _ _ a' (World.drew _)) _ _
  have d0 : w.drew.cell? ⟨g, 0, none⟩ = some (.slice A 0 0) := c0
  have d2 : w.drew.cell? ⟨g, 2, none⟩ = some (.int .i64 0) := c2
  have h1 : Hid (Que w.drew g r A [] 0 0 room) := h.kept rfl (fun _ => rfl)
  have hT : Hid (Turn g r w w.drew) := (Turn.refl g r w).drew
  have hz : Hid (w.drew.heap.size = w.heap.size) := (rfl : _ = _)
  generalize w.drew = w1 at d0 d2 h1 hT hz ⊢
  clear c0 c1 c2 f2
  repeat still_step
  refine wpStill_nil ?_
  refine wpList_copy_nothing rfl (.tmp 27) (.tmp 31) 30 30 rfl 5 Tryd.underlying30 size8 _ _ _ _ _ _ rfl rfl (by simp) ?_
  go_wp2
  refine wp_region_still_tail 11 (by kernel_rfl) (by kernel_rfl) ?_
  simp only [List.take_succ_cons, List.take_zero, List.drop_succ_cons, List.drop_zero]
  change wpStill _ _ (World.drew _) (fun a' => wpList _ _ _ _ a' (World.drew _)) _ _
  have d0 : w1.drew.cell? ⟨g, 0, none⟩ = some (.slice A 0 0) := d0
  have h2 : Hid (Que w1.drew g r A [] 0 0 room) := h1.out.kept rfl (fun _ => rfl)
  have hT2 : Hid (Turn g r w w1.drew) := hT.out.drew
  have hz2 : Hid (w1.drew.heap.size = w.heap.size) := hz.out
  generalize w1.drew = w2 at d0 h2 hT2 hz2 ⊢
  clear d2 h1 hT hz
  have c2 := h2.out.c2
  have f2 := h2.out.blk.free 2
  repeat still_step
  refine wpStill_nil ?_
  refine wpList_copy_nothing rfl (.tmp 36) (.tmp 43) 30 30 rfl 5 Tryd.underlying30 size8 _ _ _ _ _ _ rfl rfl (by simp) ?_
  go_wp2
  go_end0
  refine ⟨rfl, by simp [hz2.out], hT2.out.only (only_setCell g 2 _ _), [], rfl, rfl, ?_, fun h => absurd h (by simp), fun h => absurd h (by simp), .inr rfl, Nat.le_refl _, by simp, h2.out.small⟩
  have := h2.out.blk.put 2 (.int .i64 0)
  exact this
theorem put_any (g r : Nat) (A : Option Addr) (cs : List UInt8) (s k room : Nat) (B : Option Addr) (x : List UInt8) (c : Nat) (S : Nat → Prop) (w : World) (h : Que w g r A cs s k room) (hx : Rd w S B x) (hS : ¬ S r) (hc : x.length ≤ c) (hc2 : c ≤ 9223372036854775807) (hk : k + x.length ≤ cs.length) :
    Calls Tryd.prog 33 #[.pointer (some ⟨g, 0, none⟩), .slice B x.length c] w (Puts g r A cs s k room x w) := by
  rcases Nat.eq_zero_or_pos cs.length with h0 | h0
  · obtain rfl : cs = [] := List.eq_nil_of_length_eq_zero h0
    obtain rfl : x = [] := List.eq_nil_of_length_eq_zero (by simp only [List.length_nil] at hk; omega)
    obtain rfl : k = 0 := by have := h.count; simpa using this
    obtain rfl : s = 0 := by have := h.start; simpa using this
    exact put_none g r A room B c w h
  · by_cases hcase : x.length ≤ cs.length - idx cs.length s k
    · exact put_all g r A cs s k room B x c S w h hx hS h0 hc hc2 hk hcase
    · exact put_some g r A cs s k room B x c S w h hx hS h0 hc hc2 hk (by omega)
end Go.Proofs.YtfblkfjjpnnhhaaDoor
