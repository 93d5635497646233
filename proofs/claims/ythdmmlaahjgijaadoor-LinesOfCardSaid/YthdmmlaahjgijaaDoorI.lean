import Derived.Test.YthdmmlaahjgijaaDoorH
namespace Go.Proofs.YthdmmlaahjgijaaDoor
open Go.RowKit Go.Shelf
attribute [local go_sem] Oper.semAt_some
attribute [local go_sem] wide_fn wide_depth wide_round

/-! ## End, Waits, Copy, Of -/
theorem only_chg {d : Nat} {w w' : World} (h : Only d w w') : Chg (· = d) w w' := .only h rfl
theorem end_any (d : Nat) (ws : List UInt8) (w : World) (hd : Dec w d ws) : Calls Tryd.prog 23 #[.pointer (some ⟨d, 0, none⟩)] w (Wrote d (if ws = [] then [] else inst) [] w) := by
  have hn := Lib.hid (none_no d ws w hd)
  have ha := any_any d ws w hd
  have hk := Lib.hid (keep_any d ws [] ⟨#[]⟩ w hd rfl (by simp))
  clear hd
  by_cases h : ws = []
  · have hd : decide (0 < ws.length) = false := by rw [h]; rfl
    rw [hd] at ha
    have ha' := Lib.hid ha
    rw [if_pos h]
    clear ha hd h
    go_enter Tryd.func23, Tryd.ntmps23
    go_wp2_with (first | (go_at_call 48; refine hn.out.mono ?_; rintro e w' ⟨rfl, rfl⟩) | (go_at_call 49; refine ha'.out.mono ?_; rintro e w' ⟨rfl, rfl⟩) | (go_at_call 50; refine hk.out.mono ?_; rintro e w2 ⟨⟨u, rfl⟩, hD2, hO2⟩))
    go_ret2
    exact ⟨rfl, hD2, only_chg hO2⟩
  · have hd : decide (0 < ws.length) = true := by
      rw [decide_eq_true_eq]
      cases ws with
      | nil => exact absurd rfl h
      | cons _ _ => simp
    rw [hd] at ha
    have ha' := Lib.hid ha
    rw [if_neg h]
    clear ha hd h
    go_enter Tryd.func23, Tryd.ntmps23
    go_wp2_with (first | (go_at_call 48; refine hn.out.mono ?_; rintro e w' ⟨rfl, rfl⟩) | (go_at_call 49; refine ha'.out.mono ?_; rintro e w' ⟨rfl, rfl⟩) | (go_at_call 50; refine hk.out.mono ?_; rintro e w2 ⟨⟨u, rfl⟩, hD2, hO2⟩))
    go_ret2
    exact ⟨rfl, hD2, only_chg hO2⟩
theorem end_none (v : Option Addr) (w : World) (h : NoD w v) : Calls Tryd.prog 23 #[.pointer v] w fun e w' => e = .returned (.tuple #[.string ⟨#[]⟩, .int .i64 1]) ∧ w = w' := by
  have hn := Lib.hid (none_yes v w h)
  clear h
  go_enter Tryd.func23, Tryd.ntmps23
  go_wp2_with (go_at_call 48; refine hn.out.mono ?_; rintro e w' ⟨rfl, rfl⟩)
  go_ret2
  exact ⟨rfl, rfl⟩
theorem waits_any (d : Nat) (ws : List UInt8) (w : World) (hd : Dec w d ws) : Calls Tryd.prog 28 #[.pointer (some ⟨d, 0, none⟩)] w (ListOf ws w) := by
  have hn := Lib.hid (none_no d ws w hd)
  have hl := Lib.hid (list_any d ws w hd)
  clear hd
  go_enter Tryd.func28, Tryd.ntmps28
  go_wp2_with (first | (go_at_call 48; refine hn.out.mono ?_; rintro e w' ⟨rfl, rfl⟩) | (go_at_call 53; refine hl.out.mono ?_; rintro e w2 ⟨v, rfl, hv2, hb2⟩))
  go_ret
  exact ⟨v, rfl, hv2, hb2⟩
theorem waits_none (v : Option Addr) (w : World) (h : NoD w v) : Calls Tryd.prog 28 #[.pointer v] w fun e w' => e = .returned (.slice none 0 0) ∧ w = w' := by
  have hn := Lib.hid (none_yes v w h)
  clear h
  go_enter Tryd.func28, Tryd.ntmps28
  go_wp2_with (go_at_call 48; refine hn.out.mono ?_; rintro e w' ⟨rfl, rfl⟩)
  go_ret
  exact ⟨rfl, rfl⟩
theorem copy_none (v : Option Addr) (w : World) (h : NoD w v) : Calls Tryd.prog 25 #[.pointer v] w fun e w' => e = .returned (.pointer none) ∧ w = w' := by
  have hn := Lib.hid (none_yes v w h)
  clear h
  go_enter Tryd.func25, Tryd.ntmps25
  go_wp2_with (go_at_call 48; refine hn.out.mono ?_; rintro e w' ⟨rfl, rfl⟩)
  go_ret
  exact ⟨rfl, rfl⟩
def CopyOf (ws : List UInt8) (w : World) (e : Ending) (w' : World) : Prop := e = .returned (.pointer (some ⟨w.heap.size, 0, none⟩)) ∧ Dec w' w.heap.size ws ∧ Below w.heap.size w w'
theorem copy_any (d : Nat) (ws : List UInt8) (w : World) (hd : Dec w d ws) : Calls Tryd.prog 25 #[.pointer (some ⟨d, 0, none⟩)] w (CopyOf ws w) := by
  have hn := Lib.hid (none_no d ws w hd)
  obtain ⟨a, b, c, h1, h2, h3⟩ := hd
  have c0 := h3.cell 0
  have c1 := h3.cell 1
  have c2 := h3.cell 2
  have c3 := h3.cell 3
  have h2' := Lib.hid h2
  unfold byt at c0 c1 c2
  clear h3 h2
  go_enter Tryd.func25, Tryd.ntmps25
  go_wp2_with (go_at_call 48; refine hn.out.mono ?_; rintro e w' ⟨rfl, rfl⟩)
  go_ret
  exact ⟨rfl, ⟨a, b, c, h1, h2'.out, Has.new _ _ _⟩, (Below.refl _ _).alloc (Nat.le_refl _) _⟩
theorem write_none (v : Option Addr) (x : Value) (w : World) (h : NoD (w.alloc (.cells #[.pointer v] 40)) v) : Calls Tryd.prog 26 #[.pointer v, x] w fun e w' => e = .returned (.tuple #[.string ⟨#[]⟩, .int .i64 1]) ∧ Below w.heap.size w w' := by
  have hn := Lib.hid (none_yes v _ h)
  clear h
  go_enter Tryd.func26, Tryd.ntmps26
  go_wp2
  refine wp_scope_on 0 rfl ?_
  go_wp2_with (go_at_call 48; refine hn.out.mono ?_; rintro e w' ⟨rfl, rfl⟩)
  rw [jump_ret]
  refine bodyPost_ret (v := .tuple #[.string ⟨#[]⟩, .int .i64 1]) (by simp [results, Tryd.results26, go_sem]) rfl ⟨rfl, (Below.refl _ _).alloc (Nat.le_refl _) _⟩
/-- Bytes made sound. -/
def SoundOf (l : List UInt8) (w : World) (e : Ending) (w' : World) : Prop := e = .returned (.string ⟨(ofB l).toArray⟩) ∧ Below w.heap.size w w'
theorem cat_bytes (a b : List UInt8) : (⟨a.toArray⟩ : ByteArray) ++ ⟨b.toArray⟩ = ⟨(a ++ b).toArray⟩ := by
  have h : ((⟨a.toArray⟩ : ByteArray) ++ ⟨b.toArray⟩).data = (a ++ b).toArray := by
    simp [ByteArray.data_append]
  cases h2 : (⟨a.toArray⟩ : ByteArray) ++ ⟨b.toArray⟩ with
  | mk d => rw [h2] at h; simp only at h; rw [h]
theorem told_size_le {l : List UInt8} (h : l ≠ []) : (told l).length ≤ 3 * (look l).size := by
  have hs := look_size h
  unfold told
  split
  · rw [List.length_take]; omega
  · simp [inst]; omega
theorem ofB_len (l : List UInt8) : (ofB l).length ≤ 3 * l.length := by
  refine along (P := fun l => (ofB l).length ≤ 3 * l.length) (by simp [ofB_nil]) (fun l h ih => ?_) l
  have h1 := told_size_le h
  have hs := look_size h
  rw [ofB_step h, List.length_append]
  rw [List.length_drop] at ih
  omega
set_option maxHeartbeats 800000 in
theorem of_any (bs : List UInt8) (A : Option Addr) (m c : Nat) (w : World) (hm : m = bs.length) (hr : Rd w (· < w.heap.size) A bs) (hT : Tab w) (hl : bs.length ≤ 17592186044416) :
    Calls Tryd.prog 12 #[.slice A m c] w (SoundOf bs w) := by
  have hnew := new_any w
  have hD := dec_new w
  have hb1 : Below w.heap.size w (w.alloc (.cells #[.int .u8 0, .int .u8 0, .int .u8 0, .int .i64 0, .bool true] 57)) := (Below.refl _ _).alloc (Nat.le_refl _) _
  have hw := write_any w.heap.size [] bs A m c (w.alloc (.cells #[.int .u8 0, .int .u8 0, .int .u8 0, .int .i64 0, .bool true] 57)) hD hm ((hr.kept (Kept.below hb1 (fun _ h => h))).mono (fun b hb => by have hb : b < w.heap.size := hb; simp; omega)) (hT.below hb1) hl
  rw [List.nil_append] at hw
  have hlen := ofB_len bs
  have hof := of_run bs
  obtain ⟨t1, ht1⟩ : ∃ t, (run4 bs).1 = t := ⟨_, rfl⟩
  obtain ⟨t2, ht2⟩ : ∃ t, (if (run4 bs).2 = [] then [] else inst) = t := ⟨_, rfl⟩
  rw [ht1] at hw hof
  rw [ht2] at hof
  have hll : (ofB bs).length = t1.length + t2.length := by rw [hof, List.length_append]
  obtain ⟨s1, hs1⟩ : ∃ s : ByteArray, (⟨t1.toArray⟩ : ByteArray) = s := ⟨_, rfl⟩
  obtain ⟨s2, hs2⟩ : ∃ s : ByteArray, (⟨t2.toArray⟩ : ByteArray) = s := ⟨_, rfl⟩
  have z1 : s1.size = t1.length := by rw [← hs1]; show t1.toArray.size = _; simp
  have z2 : s2.size = t2.length := by rw [← hs2]; show t2.toArray.size = _; simp
  have hz1 : s1.size ≤ 52776558133248 := by omega
  have hz2 : s2.size ≤ 52776558133248 := by omega
  have hend : ∀ w2, Dec w2 w.heap.size (run4 bs).2 → Calls Tryd.prog 23 #[.pointer (some ⟨w.heap.size, 0, none⟩)] w2 fun e w3 => e = .returned (.tuple #[.string s2, .int .i64 0]) ∧ Chg (· = w.heap.size) w2 w3 := fun w2 h =>
    (end_any _ _ w2 h).mono fun e w3 ⟨h1, _, h3⟩ => ⟨h1.trans (by rw [ht2, hs2]), h3⟩
  have hw2 := hw.mono (R' := fun e w2 => e = .returned (.tuple #[.string s1, .int .i64 0]) ∧ Dec w2 w.heap.size (run4 bs).2 ∧ Chg (· = w.heap.size) _ w2) (fun e w2 ⟨h1, h2, h3⟩ => ⟨h1.trans (by rw [hs1]), h2, h3⟩)
  have hcat : s1 ++ s2 = ⟨(ofB bs).toArray⟩ := by rw [← hs1, ← hs2, cat_bytes, hof]
  have hcat' := Lib.hid hcat
  have hw' := Lib.hid hw2
  have hend' := Lib.hid hend
  have hnew' := Lib.hid hnew
  have hb1' := Lib.hid hb1
  have hm' := Lib.hid hm
  clear hw hw2 hnew hD hb1 hr hT hl hm hlen hof hll ht1 ht2 hs1 hs2 z1 z2 hend hcat
  go_enter Tryd.func12, Tryd.ntmps12
  go_wp2_with (first | (go_at_call 21; refine hnew'.out.mono ?_; rintro e w' ⟨rfl, rfl⟩) | (go_at_call 26; refine hw'.out.mono ?_; rintro e w2 ⟨rfl, hD2, hC2⟩; have hC2' := Lib.hid hC2; have hend2 := Lib.hid (hend'.out w2 hD2); clear hC2 hD2) | (go_at_call 23; refine hend2.out.mono ?_; rintro e w3 ⟨rfl, hC3⟩; have hC3' := Lib.hid hC3; clear hC3))
  go_ret
  exact ⟨by rw [hcat'.out]; rfl, hb1'.out.trans (((hC2'.out.trans hC3'.out)).below (fun k hk => by omega) (by simp))⟩
end Go.Proofs.YthdmmlaahjgijaaDoor
