import Derived.Test.YtlbiniibkbhghaaGreatDoorPk20
import Derived.Test.YtlbiniibkbhghaaGreatDoorPk6
namespace Go.Proofs.YtlbiniibkbhghaaGreatDoor
open Go.RowKit

/-! ## The document's Of and Sound -/
def RefText (x : List UInt8) (w : World) (e : Ending) (w' : World) : Prop := e = .returned (.string ⟨(ofB x).toArray⟩) ∧ Below w.heap.size w w'
theorem pts_get {x : List UInt8} {ps : List Nat} {k : Nat} {p : Nat} (h : ps[k]? = some p) : (ptsOf x ps)[k]? = some (p, (lookAt x p).point) := by
  unfold ptsOf; rw [List.getElem?_map, h]; rfl
theorem conc_take (x : List UInt8) {ps : List Nat} {k p : Nat} (h : ps[k]? = some p) : conc x (ps.take (k + 1)) = conc x (ps.take k) ++ ptB (lookAt x p).point := by
  obtain ⟨hk, rfl⟩ := List.getElem?_eq_some_iff.1 h
  rw [List.take_succ_eq_append_getElem hk, conc_snoc]
  show _ ++ told (x.drop _) = _
  rw [told_pt]; rfl
theorem ptB_len (p : Nat) : (ptB p).length ≤ 4 := by unfold ptB; (repeat' split) <;> simp
set_option maxRecDepth 100000 in
set_option maxHeartbeats 2000000 in
theorem refOf_any (A : Option Addr) (x : List UInt8) (n c : Nat) (w : World) (h : Rd w (· < w.heap.size) A x) (hn : n = x.length) (hc : n ≤ c) (hc' : c ≤ 9223372036854775807) (hl : n ≤ 1099511627) :
    Calls Tryz.prog 52 #[.slice A n c] w (RefText x w) := by
  have hall := Lib.hid (all_anyU A x n c w h hn hc hc' hl)
  have hpl := places_len x 0
  have hcp := Lib.hid (conc_places x)
  obtain ⟨ps, hps⟩ : ∃ ps, placesFrom x 0 = ps := ⟨_, rfl⟩
  unfold AllOf at hall
  rw [hps] at hall hpl hcp
  have hm1 : (ptsOf x ps).length = ps.length := by simp [ptsOf]
  obtain ⟨m, hm⟩ : ∃ m, ps.length = m := ⟨_, rfl⟩
  have hm' := Lib.hid hm
  have hmb : m ≤ 1099511627 := by omega
  rw [hm] at hm1
  have hm1' := Lib.hid hm1
  clear h hn hps hpl hm1 hm
  go_enter Tryz.func52, Tryz.ntmps52
  go_wp2_with (go_at_call 76; refine hall.out.mono ?_; rintro e w2 ⟨v2, rfl, hv2, hb2⟩; obtain ⟨A2, c2, rfl, hin⟩ := hv2.shape; rw [hm1'.out]; have hin' := Lib.hid hin; have hb2' := Lib.hid hb2; clear hv2 hin hb2)
  go_loopw [3, 5] (fun v i W => ∃ k : Nat, i = .int .i64 (k : Int) ∧ k ≤ m ∧ Bs W w2.heap.size v (conc x (ps.take k)) ∧ Below w2.heap.size w2 W) (fun _ i _ => m - (intOf i).toNat)
  case atStart => exact ⟨0, rfl, by omega, bs_nil _ _, Below.refl _ _⟩
  case round =>
    obtain ⟨k, rfl, hk, hv, hb⟩ := hrel
    have hb' := Lib.hid hb
    have hv' := Lib.hid hv
    by_cases hlt : k < m
    · obtain ⟨p, hp⟩ : ∃ p, ps[k]? = some p := ⟨ps[k]'(by have := hm'.out; omega), List.getElem?_eq_getElem (by have := hm'.out; omega)⟩
      obtain ⟨g, hA, hg1, hg2, hcell⟩ := (hin'.out.below hb) (by have := hm1'.out; omega)
      subst hA
      have hc1 := (hcell k _ (pts_get hp)).2
      have hct := conc_take x hp
      have hbl := Lib.hid (show (conc x (ps.take k)).length + (ptB (lookAt x p).point).length ≤ 140737488355328 from by
        have h1 := conc_len x (ps.take k)
        have h2 := ptB_len (lookAt x p).point
        rw [List.length_take] at h1
        omega)
      have hpt := look_isPt (x.drop p)
      have hpe : (look (x.drop p)).point = (lookAt x p).point := rfl
      rw [hpe] at hpt
      generalize (lookAt x p).point = pt at hc1 hct hbl hpt
      have hct' := Lib.hid hct
      have hby := Lib.hid (fun W => refBytes_any (pt : Int) pt W rfl hpt)
      have hnb := hb.size
      have hki : (k : Int) < (m : Int) := by omega
      clear hv hb hcell hct hpe hp
      go_wp2_with (first
        | (go_at_call 77; refine (hby.out _).mono ?_; rintro e w4 ⟨v4, rfl, hv4, hb4⟩; obtain ⟨A4, c4, rfl, hr4⟩ := hv4.shape; have hr4' := Lib.hid hr4; have hb4' := Lib.hid hb4; have hv5 := Lib.hid (hv'.out.below hb4); have hnb4 := hb4.size; clear hv4 hr4 hb4)
        | (at_builtin; refine wpList_append_rd rfl _ _ rfl rfl hv5.out _ A4 _ _ c4 rfl rfl hr4'.out hbl.out (by omega) ?_; intro v6 w6 hv6 hg6; have hv6' := Lib.hid hv6; have hg6' := Lib.hid hg6; clear hv6 hg6))
      refine ⟨⟨k + 1, by go_num, by omega, by rw [hct'.out]; exact hv6'.out, ?_⟩, by simp [intOf]; omega⟩
      exact (hb'.out.trans (hb4'.out.mono hnb)).grown hg6'.out (by omega) (fun g e => (hv5.out.own g e).1)
    · obtain rfl : k = m := by omega
      obtain ⟨A4, c4, rfl, hr4⟩ := hv.shape
      have hcv := hr4.text (P := Tryz.prog) 26 9 5 c4 Tryz.underlying26 Tryz.underlying5 Tryz.underlying9
      rw [List.take_of_length_le (by have := hm'.out; omega), hcp.out] at hcv
      have hle : (conc x (ps.take k)).length = (ofB x).length := by rw [List.take_of_length_le (by have := hm'.out; omega), hcp.out]
      rw [hle]
      clear hb hv hr4
      go_wp2
      go_ret
      exact ⟨rfl, hb2'.out.trans (hb'.out.mono hb2'.out.size)⟩
/-! ## A text's bytes -/
theorem str_bytes (W : World) (s : ByteArray) (hs : s.size ≤ maxLen) : ∃ c W', (convert 9 26 (.string s)).run Tryz.prog W = .ok (.slice (some ⟨W.heap.size, 0, none⟩) s.size c) W' ∧ Rd W' (· = W.heap.size) (some ⟨W.heap.size, 0, none⟩) s.data.toList ∧ Below W.heap.size W W' ∧ W'.heap.size = W.heap.size + 1 ∧ s.size ≤ c ∧ c ≤ 9223372036854775807 := by
  refine ⟨grownCap W s.size 0 5, _, run_bytes_of_string W _ _ 5 s Tryz.underlying9 Tryz.underlying26 Tryz.underlying5, ?_, ?_, by simp, grownCap_ge _ _ _ _, ?_⟩
  · refine fun _ => ⟨_, rfl, rfl, fun j u hu => ?_⟩
    obtain ⟨hj, rfl⟩ := byts_get hu
    rw [add_zero_, Nat.zero_add]
    refine (cell_of_row _ W.heap.size j _ 5 _ (World.alloc_heap_new W.drew _)).trans ?_
    have hj' : j < s.data.size := by simpa using hj
    unfold bytesRow
    rw [Array.getElem?_append_left (by simpa using hj'), Array.getElem?_map, Array.getElem?_eq_getElem hj']
    rfl
  · exact (Below.refl W.heap.size W).drew.alloc (Nat.le_refl _) _
  · have := grownCap_le_maxLen W s.size 0 5 hs
    unfold maxLen at this
    omega
set_option maxRecDepth 100000 in
theorem refSound_any (s : ByteArray) (w : World) (hs : s.size ≤ 1099511627) : Calls Tryz.prog 31 #[.string s] w fun e w' => e = .returned (.bool (soundB s.data.toList)) ∧ Below w.heap.size w w' := by
  obtain ⟨c, w1, hcv, hr, hb, hz, hc1, hc2⟩ := str_bytes w s (by unfold maxLen; omega)
  have hof := Lib.hid (refOf_any _ _ s.size c w1 (hr.mono (S' := (· < w1.heap.size)) (fun b hb => by have hb : b = w.heap.size := hb; omega)) (by simp) hc1 hc2 (by omega))
  have hb' := Lib.hid hb
  clear hr hb hz
  go_enter Tryz.func31, Tryz.ntmps31
  go_wp2_with (go_at_call 52; refine hof.out.mono ?_; rintro e w2 ⟨rfl, hb2⟩)
  go_ret
  refine ⟨ret_boolU ?_, hb'.out.trans (hb2.mono hb'.out.size)⟩
  unfold soundB SoundL
  rw [ByteArray.toList_eq]
  rw [Bool.eq_iff_iff, beq_iff_eq]
  exact ⟨fun h => decide_eq_true h, fun h => of_decide_eq_true h⟩
end Go.Proofs.YtlbiniibkbhghaaGreatDoor
