import Derived.Test.YtfblkfjjpnnhhaaDoorE
namespace Go.Proofs.YtfblkfjjpnnhhaaDoor
open Go.RowKit

/-! ## Push -/
theorem qu_drewN {W : World} {g r room : Nat} {bs : List UInt8} (h : Qu W g r room bs) (q : Nat) : Qu (W.drewN q) g r room bs := h.kept rfl rfl
theorem parts_drewN {W : World} {S : Nat → Prop} {A : Option Addr} {ps : List Part} (h : Parts W S A ps) (q : Nat) : Parts (W.drewN q) S A ps := h.kept (fun _ _ => rfl)
theorem below_of_drewN {w w' : World} {q : Nat} (h : Below (w.drewN q).heap.size (w.drewN q) w') : Below w.heap.size w w' := ⟨h.os, h.tape, h.output, h.size, h.block⟩
def PushNo (w : World) (e : Ending) (w' : World) : Prop := e = .returned (.int .i64 120) ∧ Below w.heap.size w w'
def PushOk (g r room : Nat) (l : List UInt8) (w : World) (e : Ending) (w' : World) : Prop := e = .returned (.int .i64 0) ∧ ∃ r', Qu w' g r' room l ∧ (r' = r ∨ w.heap.size ≤ r') ∧ Turn g r w w'

theorem push_none (v : Option Addr) (p : Value) (w : World) (h : NoQ w v) :
    Calls Tryd.prog 19 #[.pointer v, p] w fun e w' => e = .returned (.int .i64 1) ∧ w = w' := by
  have hn := Lib.hid (none_yes v w h)
  clear h
  go_enter Tryd.func19, Tryd.ntmps19
  go_wp2
  refine wp_scope_on 0 rfl ?_
  go_wp2_with (go_at_call 24; refine hn.out.mono ?_; rintro e w' ⟨rfl, rfl⟩)
  go_step3
  refine ⟨rfl, ?_⟩
  go_wp2
  rw [Exit.noGoto_ret]
  go_ret
  exact ⟨rfl, rfl⟩

set_option maxHeartbeats 400000 in
theorem push_no (g r room np cp : Nat) (bs : List UInt8) (A : Option Addr) (S : Nat → Prop) (ps : List Part) (w : World) (h : Qu w g r room bs) (hp : Parts w S A ps) (hS : ∀ k, S k → k < w.heap.size) (hnp : np = ps.length) (hcap : np ≤ 140737488355328)
    (hno : room < bs.length + tot ps) :
    Calls Tryd.prog 19 #[.pointer (some ⟨g, 0, none⟩), .slice A np cp] w (PushNo w) := by
  have hn := Lib.hid (none_no g w h.c4)
  have hsm := h.small
  have hr := Lib.hid (room_any g r room bs w h)
  have hp' := Lib.hid hp
  have h' := Lib.hid h
  have hnp' := Lib.hid hnp
  have hS' := Lib.hid hS
  have hx : Hid (min (tot ps) (room - bs.length + 1) = room - bs.length + 1) := (by omega : _ = _)
  clear h hp hnp hS
  go_enter Tryd.func19, Tryd.ntmps19
  go_wp2
  refine wp_scope_on 0 rfl ?_
  go_wp2_with (first | (go_at_call 24; refine hn.out.mono ?_; rintro e w' ⟨rfl, rfl⟩) | (go_at_call 21; refine hr.out.mono ?_; rintro e w' ⟨rfl, q, rfl⟩) | fail)
  refine (together_any (room - bs.length) np cp A S ps _ (by omega) (parts_drewN hp'.out q) hS'.out hnp'.out hcap).mono ?_
  rintro e w2 ⟨rfl, hb2⟩
  rw [hx.out]
  have hb2' := Lib.hid (below_of_drewN hb2)
  clear hb2
  go_wp2_with (go_at_call 21; refine (room_any g r room bs w2 (h'.out.below hb2'.out)).mono ?_; rintro e w' ⟨rfl, q, rfl⟩)
  go_step3
  refine ⟨rfl, ?_⟩
  go_wp2
  rw [Exit.noGoto_ret]
  go_ret
  exact ⟨rfl, below_draws hb2'.out _⟩

/-- What lies while the parts are put in, one by one. -/
def PushI (g r r' : Nat) (A' : Option Addr) (n' s' k0 room : Nat) (bs : List UInt8) (ps : List Part) (w : World) (k : Nat) (wr : World) : Prop :=
  ∃ cs, cs.length = n' ∧ Que wr g r' A' cs s' (k0 + tot (ps.take k)) room ∧ rb cs s' (k0 + tot (ps.take k)) = bs ++ cat (ps.take k) ∧ Turn g r w wr
theorem tot_take_le (ps : List Part) (k : Nat) : tot (ps.take k) ≤ tot ps := by
  have h2 : tot (ps.take k ++ ps.drop k) = tot (ps.take k) + tot (ps.drop k) := by simp only [tot, List.map_append, List.sum_append]
  rw [List.take_append_drop] at h2
  omega
theorem pushI_next {g r r' : Nat} {A' : Option Addr} {n' s' k0 room : Nat} {bs : List UInt8} {ps : List Part} {w wr w' : World} {k : Nat} (hk : k < ps.length) {cs : List UInt8} (hl : cs.length = n')
    (hrb : rb cs s' (k0 + tot (ps.take k)) = bs ++ cat (ps.take k)) (hT : Turn g r w wr) (hr : r' = r ∨ w.heap.size ≤ r') {e : Ending} (h : Puts g r' A' cs s' (k0 + tot (ps.take k)) room ps[k].l wr e w') : PushI g r r' A' n' s' k0 room bs ps w (k + 1) w' := by
  obtain ⟨_, _, hT', cs', hl', hrb', hq⟩ := h
  have e : k0 + tot (ps.take (k + 1)) = k0 + tot (ps.take k) + ps[k].l.length := by rw [take_succ_ ps k hk, tot_snoc]; omega
  refine ⟨cs', hl'.trans hl, by rw [e]; exact hq, ?_, hT.trans hT' hr⟩
  rw [e, hrb', hrb, take_succ_ ps k hk, cat_snoc, List.append_assoc]

set_option maxHeartbeats 800000 in
theorem push_ok (g r room np cp : Nat) (bs : List UInt8) (A : Option Addr) (S : Nat → Prop) (ps : List Part) (w : World) (h : Qu w g r room bs) (hp : Parts w S A ps) (hS : ∀ k, S k → k < w.heap.size ∧ k ≠ g ∧ k ≠ r) (hnp : np = ps.length) (hcap : np ≤ 140737488355328)
    (hok : bs.length + tot ps ≤ room) :
    Calls Tryd.prog 19 #[.pointer (some ⟨g, 0, none⟩), .slice A np cp] w (PushOk g r room (bs ++ cat ps) w) := by
  have hn := Lib.hid (none_no g w h.c4)
  have hsm := h.small
  have hr := Lib.hid (room_any g r room bs w h)
  have hp' := Lib.hid hp
  have h' := Lib.hid h
  have hnp' := Lib.hid hnp
  have hS' := Lib.hid hS
  generalize htt : tot ps = N at hok
  have htt' := Lib.hid htt
  have hx : Hid (min N (room - bs.length + 1) = N) := (by omega : _ = _)
  have hN : (N : Int) ≤ ((room - bs.length : Nat) : Int) := by omega
  have hN2 : N ≤ room - bs.length := by omega
  clear h hp hnp hS htt
  go_enter Tryd.func19, Tryd.ntmps19
  go_wp2
  refine wp_scope_on 0 rfl ?_
  go_wp2_with (first | (go_at_call 24; refine hn.out.mono ?_; rintro e w' ⟨rfl, rfl⟩) | (go_at_call 21; refine hr.out.mono ?_; rintro e w' ⟨rfl, q, rfl⟩) | fail)
  refine (together_any (room - bs.length) np cp A S ps _ (by omega) (parts_drewN hp'.out q) (fun k hk => (hS'.out k hk).1) hnp'.out hcap).mono ?_
  rintro e w2 ⟨rfl, hb2⟩
  rw [htt'.out, hx.out]
  have hb2' := Lib.hid (below_of_drewN hb2)
  clear hb2
  have h2 := Lib.hid (h'.out.below hb2'.out)
  go_wp2_with (go_at_call 21; refine (room_any g r room bs w2 h2.out).mono ?_; rintro e w' ⟨rfl, q2, rfl⟩)
  refine wp_region_still_tail 14 (by kernel_rfl) (by kernel_rfl) ?_
  simp only [List.take_succ_cons, List.take_zero, List.drop_succ_cons, List.drop_zero]
  change wpStill _ _ (World.drew _) (fun a' => wpList _ _ _ _ a' (World.drew _)) _ _
  have h3 : Hid (Qu (w2.drewN q2).drew g r room bs) := h2.out.kept rfl rfl
  have hb3 : Hid (Below w.heap.size w (w2.drewN q2).drew) := (below_draws hb2'.out _).drew
  have c2 := h3.out.c2
  have c3 := h3.out.c3
  generalize (w2.drewN q2).drew = w3 at h3 hb3 c2 c3 ⊢
  clear h2 hb2' hn hr h'
  repeat still_step
  refine wpStill_nil ?_
  obtain ⟨A1, cs1, s1, hq1, hr1⟩ := h3.out
  have hw1 := Lib.hid (widen_any g r A1 cs1 s1 bs.length room (bs.length + N) w3 hq1 (by omega))
  have hr1' := Lib.hid hr1
  clear hq1 hr1 c2 c3
  have hsum := Lib.hid (show (bs.length : Int) + (N : Int) = ((bs.length + N : Nat) : Int) by omega)
  go_wp2_with fail
  rw [hsum.out]
  refine hw1.out.mono ?_
  rintro e w4 ⟨rfl, r', A', cs', s', hq4, hn4, hr4, hrr4, hT4⟩
  have hq4' := Lib.hid hq4
  have hr4' := Lib.hid hr4
  have hT4' : Hid (Turn g r w w4) := (turn_of_below hb3.out).trans hT4 (.inl rfl)
  have hrr : Hid (r' = r ∨ w.heap.size ≤ r') := by
    have := hb3.out.size
    rcases hrr4 with h | h
    · exact .inl h
    · exact .inr (by omega)
  clear hsum hw1 hq4 hr4 hT4 hrr4
  go_wp2
  go_loopw [36] (fun i wr => ∃ k : Nat, k ≤ np ∧ i = .int .i64 k ∧ PushI g r r' A' cs'.length s' bs.length room bs ps w k wr) (fun i _ => np - (intOf i).toNat)
  case atStart => exact ⟨0, Nat.zero_le _, rfl, cs', rfl, by simpa [tot] using hq4'.out, by simpa [tot, cat] using hr4'.out.trans hr1'.out, hT4'.out⟩
  case round =>
    obtain ⟨k, hk, rfl, hI⟩ := hrel
    have hI' := Lib.hid hI
    clear hI
    by_cases hlt : k < np
    · obtain ⟨cs, hl, hq, hrb, hT⟩ := hI'.out
      have hKp : Kept S w wr := hT.kept hS'.out
      have hkl : k < ps.length := by have := hnp'.out; omega
      obtain ⟨ad, rfl, hcell, hrd, hcl, hcc⟩ := (hp'.out.kept hKp).at_ hkl
      have hcap2 : bs.length + tot (ps.take k) + ps[k].l.length ≤ cs.length := by
        have h1 := tot_take_le ps (k + 1)
        rw [take_succ_ ps k hkl, tot_snoc] at h1
        have := htt'.out
        omega
      have hput := Lib.hid (put_any g r' A' cs s' (bs.length + tot (ps.take k)) room ps[k].A ps[k].l ps[k].c S wr hq hrd (fun hs => by
        have := hS'.out _ hs
        rcases hrr.out with e | e
        · exact this.2.2 e
        · omega) hcl (by omega) hcap2)
      have hnext := Lib.hid (fun e w' => pushI_next (A' := A') (room := room) (e := e) (w' := w') hkl hl hrb hT hrr.out)
      generalize ps[k] = p at hcell hput hnext
      clear hq hrb hT hKp hrd hcl hcc hcap2 hl
      go_wp2_with (go_at_call 33; refine hput.out.mono ?_; intro e w' hP; obtain rfl := hP.1; have hP' := Lib.hid (hnext.out _ _ hP); clear hP)
      go_roundw
      case rel => exact ⟨k + 1, by omega, by go_num, hP'.out⟩
      case measure => simp [intOf]; omega
    · have hke : Hid (k = ps.length) := by show _ = _; have := hnp'.out; omega
      go_wp2
      rw [jump_ret]
      go_ret
      obtain ⟨cs, hl, hq, hrb, hT⟩ := hI'.out
      rw [hke.out, List.take_length] at hq hrb
      refine ⟨rfl, r', ⟨A', cs, s', ?_, ?_⟩, hrr.out, hT⟩
      · rw [List.length_append, cat_length]; exact hq
      · rw [List.length_append, cat_length]; exact hrb
end Go.Proofs.YtfblkfjjpnnhhaaDoor
