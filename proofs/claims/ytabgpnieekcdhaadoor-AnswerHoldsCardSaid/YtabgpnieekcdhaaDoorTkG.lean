import Derived.Test.YtabgpnieekcdhaaDoorTkE
import Derived.Test.YtabgpnieekcdhaaDoorTkF
import Derived.Test.YtabgpnieekcdhaaDoorV
import Derived.Laws.RangeAny
import Derived.Lib.OthersKept
namespace Go.Proofs.YtabgpnieekcdhaaDoor
open Go.RowKit
attribute [local go_sem] Oper.semAt_some class_at0 class_at1 class_at2

/-! ## Small letters -/
/-- A row of one's own that begins with bytes. -/
def Buf (W : World) (g : Nat) (l : List UInt8) : Prop := ∃ (cs : Array Value) (n : Nat), W.heap[g]? = some (.cells cs 5 (n, n + 1)) ∧ l.length ≤ n ∧ ∀ (j : Nat) (hj : j < l.length), cs[j]? = some (.int .u8 (l[j].toNat : Int))
theorem Buf.cell {W : World} {g : Nat} {l : List UInt8} (h : Buf W g l) {j : Nat} (hj : j < l.length) : W.cell? ⟨g, j, none⟩ = some (.int .u8 (l[j].toNat : Int)) := by
  obtain ⟨cs, n, h, _, hc⟩ := h
  exact (cell_of_row W g j cs _ _ h).trans (hc j hj)
theorem Buf.free {W : World} {g : Nat} {l : List UInt8} (h : Buf W g l) {j : Nat} (hj : j < l.length) : W.frozen? ⟨g, j, none⟩ = false := by
  obtain ⟨cs, n, h, hn, _⟩ := h
  simp [World.frozen?, h]
  omega
theorem Buf.set {W : World} {g : Nat} {l : List UInt8} (h : Buf W g l) {j : Nat} (hj : j < l.length) (b : UInt8) : Buf (W.setCell ⟨g, j, none⟩ (.int .u8 (b.toNat : Int))) g (l.set j b) := by
  obtain ⟨cs, n, h, hn, hc⟩ := h
  refine ⟨cs.setIfInBounds j (.int .u8 (b.toNat : Int)), n, by simp [World.setCell, Array.getElem?_modify, h], by rw [List.length_set]; exact hn, fun i hi => ?_⟩
  rw [List.length_set] at hi
  have hj2 : j < cs.size := by
    have := hc j hj
    exact (Array.getElem?_eq_some_iff.1 this).1
  rw [Array.getElem?_setIfInBounds, List.getElem_set]
  by_cases e : j = i
  · subst e; simp [hj2]
  · rw [if_neg e, if_neg e]; exact hc i hi
theorem Buf.kept {W W' : World} {g : Nat} {l : List UInt8} (h : Buf W g l) (k : W'.heap[g]? = W.heap[g]?) : Buf W' g l := by
  obtain ⟨cs, n, h, r⟩ := h
  exact ⟨cs, n, k.trans h, r⟩
theorem Buf.lt {W : World} {g : Nat} {l : List UInt8} (h : Buf W g l) : g < W.heap.size := by
  obtain ⟨cs, n, h, _⟩ := h
  exact (Array.getElem?_eq_some_iff.1 h).1
theorem Buf.text {W : World} {g c : Nat} {l : List UInt8} (h : Buf W g l) : (convert 26 9 (.slice (some ⟨g, 0, none⟩) l.length c)).run Tryd.prog W = .ok (.string ⟨l.toArray⟩) W := by
  refine Rd.text (S := (· = g)) (fun _ => ⟨_, rfl, rfl, fun j u hu => ?_⟩) 26 9 5 c Tryd.underlying26 Tryd.underlying5 Tryd.underlying9
  obtain ⟨hj, rfl⟩ := byts_get hu
  rw [add_zero_, Nat.zero_add]
  exact h.cell hj
/-- A text's bytes, in a row of one's own. -/
theorem str_bytes (W : World) (s : List UInt8) : ∃ c W', (convert 9 26 (.string ⟨s.toArray⟩)).run Tryd.prog W = .ok (.slice (some ⟨W.heap.size, 0, none⟩) s.length c) W' ∧ Buf W' W.heap.size s ∧ Below W.heap.size W W' ∧ W'.heap.size = W.heap.size + 1 := by
  have hz : (⟨s.toArray⟩ : ByteArray).size = s.length := by show s.toArray.size = _; simp
  have := run_bytes_of_string (P := Tryd.prog) W 9 26 5 ⟨s.toArray⟩ Tryd.underlying9 Tryd.underlying26 Tryd.underlying5
  rw [hz] at this
  refine ⟨_, _, this, ?_, ?_, by simp⟩
  · refine ⟨_, _, World.alloc_heap_new W.drew _, ?_, fun j hj => ?_⟩
    · unfold bytesRow; rw [hz]; simp
    · unfold bytesRow
      rw [Array.getElem?_append_left (by simpa using hj), Array.getElem?_map, Array.getElem?_eq_getElem (by simpa using hj)]
      rfl
  · exact (Below.refl W.heap.size W).drew.alloc (Nat.le_refl _) _
/-- A text whose first j bytes are in small letters. -/
def lowAt (s : List UInt8) (j : Nat) : List UInt8 := (s.take j).map lowB ++ s.drop j
theorem lowAt_zero (s : List UInt8) : lowAt s 0 = s := rfl
theorem lowAt_len (s : List UInt8) (j : Nat) : (lowAt s j).length = s.length := by unfold lowAt; simp; omega
theorem lowAt_all (s : List UInt8) {j : Nat} (h : s.length ≤ j) : lowAt s j = lowerL s := by unfold lowAt lowerL; rw [List.take_of_length_le h, List.drop_of_length_le h, List.append_nil]
theorem lowAt_at (s : List UInt8) {j : Nat} (h : j < s.length) (h2 : j < (lowAt s j).length) : (lowAt s j)[j] = s[j] := by
  have e : (lowAt s j)[j]? = s[j]? := by
    unfold lowAt
    rw [List.getElem?_append_right (by simp; omega), List.getElem?_drop]
    congr 1
    simp; omega
  rw [List.getElem?_eq_getElem h2, List.getElem?_eq_getElem h] at e
  exact Option.some.inj e
theorem lowAt_next (s : List UInt8) {j : Nat} (h : j < s.length) : lowAt s (j + 1) = (lowAt s j).set j (lowB s[j]) := by
  unfold lowAt
  rw [List.take_succ_eq_append_getElem h, List.drop_eq_getElem_cons h, List.map_append, List.set_append_right _ _ (by simp; omega)]
  have : j - (List.map lowB (s.take j)).length = 0 := by simp; omega
  rw [this, List.append_assoc]
  rfl
theorem lowAt_same (s : List UInt8) {j : Nat} (h : j < s.length) (hb : lowB s[j] = s[j]) : lowAt s (j + 1) = lowAt s j := by
  rw [lowAt_next s h, hb]
  conv => lhs; rw [← lowAt_at s h (by rw [lowAt_len]; exact h)]
  exact List.set_getElem_self _
theorem lowB_hit {b : UInt8} (h1 : 65 ≤ (b.toNat : Int)) (h2 : (b.toNat : Int) ≤ 90) : ((lowB b).toNat : Int) = (b.toNat : Int) + 32 := by
  have : lowB b = b + 32 := by
    unfold lowB
    rw [if_pos]
    rw [nle, nle, Bool.and_eq_true]
    exact ⟨decide_eq_true h1, decide_eq_true h2⟩
  rw [this, UInt8.toNat_add]
  have : (32 : UInt8).toNat = 32 := rfl
  omega
theorem lowB_miss {b : UInt8} (h : ¬ (65 ≤ (b.toNat : Int) ∧ (b.toNat : Int) ≤ 90)) : lowB b = b := by
  unfold lowB
  rw [if_neg]
  rw [nle, nle, Bool.and_eq_true]
  exact fun ⟨a, c⟩ => h ⟨of_decide_eq_true a, of_decide_eq_true c⟩
/-- Bytes that a point takes with it are no letters. -/
theorem tkDecode_span (s : ByteArray) (pos k : Nat) (hk : 1 ≤ k) (h : k < (Utf8.decode s pos).2) : pos + k < s.size ∧ 128 ≤ (s.get! (pos + k)).toNat := by
  have key : ∀ m, (decide (pos + m < s.size) && (s.get! (pos + m)).toNat / 64 == 2) = true → pos + m < s.size ∧ 128 ≤ (s.get! (pos + m)).toNat := fun m hm => by
    rw [Bool.and_eq_true, decide_eq_true_eq, beq_iff_eq] at hm
    exact ⟨hm.1, by omega⟩
  obtain ⟨c1, h1⟩ : ∃ c, (decide (pos + 1 < s.size) && (s.get! (pos + 1)).toNat / 64 == 2) = c := ⟨_, rfl⟩
  obtain ⟨c2, h2⟩ : ∃ c, (decide (pos + 2 < s.size) && (s.get! (pos + 2)).toNat / 64 == 2) = c := ⟨_, rfl⟩
  obtain ⟨c3, h3⟩ : ∃ c, (decide (pos + 3 < s.size) && (s.get! (pos + 3)).toNat / 64 == 2) = c := ⟨_, rfl⟩
  have k1 : c1 = true → pos + 1 < s.size ∧ 128 ≤ (s.get! (pos + 1)).toNat := fun e => key 1 (h1.trans e)
  have k2 : c2 = true → pos + 2 < s.size ∧ 128 ≤ (s.get! (pos + 2)).toNat := fun e => key 2 (h2.trans e)
  have k3 : c3 = true → pos + 3 < s.size ∧ 128 ≤ (s.get! (pos + 3)).toNat := fun e => key 3 (h3.trans e)
  revert h
  simp only [Utf8.decode, h1, h2, h3]
  clear key h1 h2 h3
  repeat' split
  all_goals intro h
  all_goals try (exfalso; omega)
  all_goals simp only [Bool.and_eq_true] at *
  all_goals rcases (by omega : k = 1 ∨ k = 2 ∨ k = 3) with rfl | rfl | rfl
  all_goals first | (exfalso; omega) | exact k1 (by simp_all) | exact k2 (by simp_all) | exact k3 (by simp_all)
/-- Behind a point nothing has turned but the point's first byte. -/
theorem lowAt_over (s : List UInt8) (pos : Nat) : ∀ n : Nat, (∀ k, 1 ≤ k → k < n → pos + k < s.length ∧ ∀ h : pos + k < s.length, 128 ≤ (s[pos + k].toNat : Int)) → 1 ≤ n → lowAt s (pos + n) = lowAt s (pos + 1)
  | 0, _, h => absurd h (by omega)
  | 1, _, _ => rfl
  | n + 2, hk, _ => by
    obtain ⟨h1, h2⟩ := hk (n + 1) (by omega) (by omega)
    have ih := lowAt_over s pos (n + 1) (fun k h1 h2 => hk k h1 (by omega)) (by omega)
    have := h2 h1
    rw [← ih]
    exact lowAt_same s h1 (lowB_miss (b := s[pos + (n + 1)]) (by omega))
theorem getB (s : List UInt8) (j : Nat) (h : j < s.length) : (⟨s.toArray⟩ : ByteArray).get! j = s[j] := by
  have h2 : j < (⟨s.toArray⟩ : ByteArray).size := h
  have := get_at ⟨s.toArray⟩ j h2
  rw [Nat.add_zero] at this
  exact this
theorem lowAt_point (s : List UInt8) {pos : Nat} (h : pos < s.length) (hh : 128 ≤ s[pos].toNat) : lowAt s (pos + (Utf8.decode ⟨s.toArray⟩ pos).2) = lowAt s pos ∧ pos + (Utf8.decode ⟨s.toArray⟩ pos).2 ≤ s.length := by
  have hw := (decode_high ⟨s.toArray⟩ pos h hh).2
  have hk : ∀ k, 1 ≤ k → k < (Utf8.decode ⟨s.toArray⟩ pos).2 → pos + k < s.length ∧ ∀ h : pos + k < s.length, 128 ≤ (s[pos + k].toNat : Int) := fun k h1 h2 => by
    obtain ⟨a, b⟩ := tkDecode_span ⟨s.toArray⟩ pos k h1 h2
    have a' : pos + k < s.length := a
    refine ⟨a', fun _ => ?_⟩
    rw [getB s _ a'] at b
    omega
  rw [lowAt_over s pos _ hk hw]
  refine ⟨lowAt_same s h (lowB_miss (by omega)), ?_⟩
  rcases Nat.lt_or_ge 1 (Utf8.decode ⟨s.toArray⟩ pos).2 with h1 | h1
  · have := (hk ((Utf8.decode ⟨s.toArray⟩ pos).2 - 1) (by omega) (by omega)).1
    omega
  · omega
set_option maxRecDepth 100000 in
theorem refLower_any (s : List UInt8) (w : World) (hs : s.length ≤ 1000000) : Calls Tryd.prog 33 #[.string ⟨s.toArray⟩] w (StrR (lowerL s) w) := by
  unfold StrR
  obtain ⟨c, w1, hcv, hbf, hb1, hz1⟩ := str_bytes w s
  have hbf' := Lib.hid hbf
  have hb1' := Lib.hid hb1
  generalize hg : w.heap.size = g at *
  clear hbf hb1
  go_enter Tryd.func33, Tryd.ntmps33
  go_wp2
  go_loopw [4] (fun n W => ∃ j : Nat, j ≤ s.length ∧ n = .int .i64 (j : Int) ∧ Buf W g (lowAt s j) ∧ Below g w W) (fun n _ => s.length - (intOf n).toNat)
  case atStart => exact ⟨0, Nat.zero_le _, rfl, hbf'.out, hb1'.out⟩
  case round =>
    obtain ⟨j, hj, rfl, hbf, hb⟩ := hrel
    by_cases hlt : j < s.length
    · have hltI : (j : Int) < (s.length : Int) := by omega
      have hc := hbf.cell (j := j) (by rw [lowAt_len]; exact hlt)
      rw [lowAt_at s hlt] at hc
      have hf := hbf.free (j := j) (by rw [lowAt_len]; exact hlt)
      by_cases h1 : 65 ≤ (s[j].toNat : Int) ∧ (s[j].toNat : Int) ≤ 90
      · have hn := hbf.set (j := j) (by rw [lowAt_len]; exact hlt) (lowB s[j])
        rw [← lowAt_next s hlt, lowB_hit h1.1 h1.2] at hn
        have hn' := Lib.hid hn
        have hb' := Lib.hid hb
        have h2 := h1.1
        have h3 := h1.2
        clear hn hbf hb h1
        generalize (s[j].toNat : Int) = x at *
        go_wp2
        exact ⟨⟨j + 1, by omega, rfl, hn'.out, hb'.out.setCell (p := ⟨g, j, none⟩) (Nat.le_refl _) _⟩, by simp [intOf]; omega⟩
      · have hn := Lib.hid (lowAt_same s hlt (lowB_miss h1))
        have hbf' := Lib.hid hbf
        have hb' := Lib.hid hb
        clear hbf hb
        generalize (s[j].toNat : Int) = x at *
        by_cases h2 : 65 ≤ x
        · have h3 : ¬ x ≤ 90 := fun e => h1 ⟨h2, e⟩
          clear h1
          go_wp2
          exact ⟨⟨j + 1, by omega, rfl, by rw [hn.out]; exact hbf'.out, hb'.out⟩, by simp [intOf]; omega⟩
        · clear h1
          go_wp2
          exact ⟨⟨j + 1, by omega, rfl, by rw [hn.out]; exact hbf'.out, hb'.out⟩, by simp [intOf]; omega⟩
    · obtain rfl : j = s.length := by omega
      have ht := hbf.text (c := c)
      rw [lowAt_len] at ht
      rw [lowAt_all s (Nat.le_refl _)] at ht
      have hb' := Lib.hid hb
      clear hbf hb
      go_wp2
      go_ret
      exact ⟨rfl, hb'.out⟩
set_option maxRecDepth 100000 in
set_option maxHeartbeats 2000000 in
theorem lower_any (s : List UInt8) (w : World) (hs : s.length ≤ 1000000) : Calls Tryd.prog 31 #[.string ⟨s.toArray⟩] w (StrR (lowerL s) w) := by
  unfold StrR
  obtain ⟨c, w1, hcv, hbf, hb1, hz1⟩ := str_bytes w s
  have hbf' := Lib.hid hbf
  have hb1' := Lib.hid hb1
  generalize hg : w.heap.size = g at *
  clear hbf hb1
  go_enter Tryd.func31, Tryd.ntmps31
  go_wp2
  go_loopw [4, 5] (fun _ _ W => ∃ pos : Nat, pos ≤ s.length ∧ W.heap[g + 1]? = some (.stringIter ⟨s.toArray⟩ pos) ∧ Buf W g (lowAt s pos) ∧ Below g w W) (fun _ _ W => s.length - W.iterPos (g + 1))
  case atStart =>
    have hi : (w1.iter ⟨s.toArray⟩ 0).heap[g + 1]? = some (.stringIter ⟨s.toArray⟩ 0) := by rw [← hz1]; exact World.iter_heap _ _ _
    exact ⟨0, Nat.zero_le _, hi, hbf'.out.kept (Below.heap_alloc _ _ _ (by omega)), hb1'.out.alloc (by omega) _⟩
  case round =>
    obtain ⟨pos, hpos, hit, hbf, hb⟩ := hrel
    have hip : wr.iterPos (g + 1) = pos := by unfold World.iterPos; rw [hit]
    by_cases hlt : pos < s.length
    · have hnx : ∀ ty, (Instr.next (.pointer (some ⟨g + 1, 0, none⟩)) true ty).run Tryd.prog wr = _ := fun ty => Lib.run_next_any_at wr (g + 1) ⟨s.toArray⟩ pos ty hit hlt
      have hbW : Buf (wr.iterAt (g + 1) ⟨s.toArray⟩ (pos + (Utf8.decode ⟨s.toArray⟩ pos).2)) g (lowAt s pos) := hbf.kept (Lib.iterAt_other _ _ _ _ _ (by omega))
      have hbW2 : Below g w (wr.iterAt (g + 1) ⟨s.toArray⟩ (pos + (Utf8.decode ⟨s.toArray⟩ pos).2)) := Lib.below_iterAt hb (by omega) _ _
      have hit2 : (wr.iterAt (g + 1) ⟨s.toArray⟩ (pos + (Utf8.decode ⟨s.toArray⟩ pos).2)).heap[g + 1]? = some (.stringIter ⟨s.toArray⟩ (pos + (Utf8.decode ⟨s.toArray⟩ pos).2)) := Lib.iterAt_heap wr (g + 1) ⟨s.toArray⟩ pos _ hit
      clear hbf hb
      by_cases hh : s[pos].toNat < 128
      · have hd : Utf8.decode ⟨s.toArray⟩ pos = (s[pos].toNat, 1) := decode_ascii ⟨s.toArray⟩ pos hlt hh
        rw [hd] at hnx hbW hbW2 hit2
        simp only at hnx hbW hbW2 hit2
        obtain ⟨W1, hW1⟩ : ∃ W1, wr.iterAt (g + 1) ⟨s.toArray⟩ (pos + 1) = W1 := ⟨_, rfl⟩
        rw [hW1] at hnx hbW hbW2 hit2
        have hit' := Lib.hid hit2
        have hb' := Lib.hid hbW2
        have hip' := Lib.hid hip
        clear hd hW1 hit2 hbW2 hit hip
        by_cases h1 : 65 ≤ (s[pos].toNat : Int) ∧ (s[pos].toNat : Int) ≤ 90
        · have hc := hbW.cell (j := pos) (by rw [lowAt_len]; exact hlt)
          rw [lowAt_at s hlt] at hc
          have hf := hbW.free (j := pos) (by rw [lowAt_len]; exact hlt)
          have hn := hbW.set (j := pos) (by rw [lowAt_len]; exact hlt) (lowB s[pos])
          rw [← lowAt_next s hlt, lowB_hit h1.1 h1.2] at hn
          have hn' := Lib.hid hn
          have h2 := h1.1
          have h3 := h1.2
          have hltI : (pos : Int) < (s.length : Int) := by omega
          clear hn hbW h1 hh
          generalize (s[pos].toNat : Int) = x at *
          go_wp2
          have hi3 : (W1.setCell ⟨g, pos, none⟩ (.int .u8 (x + 32))).heap[g + 1]? = some (.stringIter ⟨s.toArray⟩ (pos + 1)) := (Below.heap_setCell W1 ⟨g, pos, none⟩ _ (g + 1) (by simp)).trans hit'.out
          exact ⟨⟨pos + 1, by omega, hi3, hn'.out, hb'.out.setCell (p := ⟨g, pos, none⟩) (Nat.le_refl _) _⟩, by rw [hip'.out]; unfold World.iterPos; rw [hi3]; simp; omega⟩
        · have hn := Lib.hid (lowAt_same s hlt (lowB_miss h1))
          have hbW' := Lib.hid hbW
          clear hbW hh
          generalize (s[pos].toNat : Int) = x at *
          by_cases h2 : 65 ≤ x
          · have h3 : ¬ x ≤ 90 := fun e => h1 ⟨h2, e⟩
            clear h1
            go_wp2
            exact ⟨⟨pos + 1, by omega, hit'.out, by rw [hn.out]; exact hbW'.out, hb'.out⟩, by rw [hip'.out]; unfold World.iterPos; rw [hit'.out]; simp; omega⟩
          · clear h1
            go_wp2
            exact ⟨⟨pos + 1, by omega, hit'.out, by rw [hn.out]; exact hbW'.out, hb'.out⟩, by rw [hip'.out]; unfold World.iterPos; rw [hit'.out]; simp; omega⟩
      · have hhi := decode_high ⟨s.toArray⟩ pos hlt (by have : (⟨s.toArray⟩ : ByteArray)[pos]'hlt = s[pos] := rfl; rw [this]; omega)
        obtain ⟨hp1, hp2⟩ := lowAt_point s hlt (by omega)
        generalize (Utf8.decode ⟨s.toArray⟩ pos).2 = n at *
        have h2 : (65 : Int) ≤ ((Utf8.decode ⟨s.toArray⟩ pos).1 : Int) := by omega
        have h3 : ¬ ((Utf8.decode ⟨s.toArray⟩ pos).1 : Int) ≤ 90 := by omega
        generalize ((Utf8.decode ⟨s.toArray⟩ pos).1 : Int) = x at *
        obtain ⟨W1, hW1⟩ : ∃ W1, wr.iterAt (g + 1) ⟨s.toArray⟩ (pos + n) = W1 := ⟨_, rfl⟩
        rw [hW1] at hnx hbW hbW2 hit2
        have hit' := Lib.hid hit2
        have hb' := Lib.hid hbW2
        have hip' := Lib.hid hip
        have hbW' := Lib.hid hbW
        have hp1' := Lib.hid hp1
        have hw := hhi.2
        clear hW1 hit2 hbW2 hit hip hbW hp1 hhi hh
        go_wp2
        exact ⟨⟨pos + n, hp2, hit'.out, by rw [hp1'.out]; exact hbW'.out, hb'.out⟩, by rw [hip'.out]; unfold World.iterPos; rw [hit'.out]; simp; omega⟩
    · obtain rfl : pos = s.length := by omega
      have hnx : ∀ ty, (Instr.next (.pointer (some ⟨g + 1, 0, none⟩)) true ty).run Tryd.prog wr = _ := fun ty => Lib.run_next_end_at wr (g + 1) ⟨s.toArray⟩ s.length ty hit (by show ¬ _ < s.toArray.size; simp)
      have ht := hbf.text (c := c)
      rw [lowAt_len] at ht
      rw [lowAt_all s (Nat.le_refl _)] at ht
      have hb' := Lib.hid hb
      clear hbf hb hit hip
      go_wp2
      go_ret
      exact ⟨rfl, hb'.out⟩
end Go.Proofs.YtabgpnieekcdhaaDoor
