import Derived.Test.YthdmmlaahjgijaaDoorLnA
import Derived.Test.YthdmmlaahjgijaaDoorI
namespace Go.Proofs.YthdmmlaahjgijaaDoor
open Go.RowKit Go.Shelf

/-! ## A splitter in memory; its small parts -/
/-- The bytes with which a line ends, as the program lists them. -/
def Ends (W : World) : Prop := ∃ t cs, Has W 1 t cs ∧ cs[0]? = some (.int .u8 13) ∧ cs[1]? = some (.int .u8 10)
theorem Ends.lt {W : World} (h : Ends W) : 1 < W.heap.size := by obtain ⟨_, _, h, _⟩ := h; exact h.lt
theorem Ends.kept {W W' : World} (h : Ends W) (hb : W'.heap[1]? = W.heap[1]?) : Ends W' := by
  obtain ⟨t, cs, h1, h2⟩ := h
  exact ⟨t, cs, hb.trans h1, h2⟩
theorem Ends.below {W W' : World} (h : Ends W) (hb : Below W.heap.size W W') : Ends W' := h.kept (hb.block _ h.lt)
theorem Ends.cells {W : World} (h : Ends W) : W.cell? ⟨1, 0, none⟩ = some (.int .u8 13) ∧ W.cell? ⟨1, 1, none⟩ = some (.int .u8 10) := by
  obtain ⟨t, cs, h1, h2, h3⟩ := h
  exact ⟨(h1.cell 0).trans h2, (h1.cell 1).trans h3⟩
/-- A splitter, its decoder, and what it keeps. -/
def Spl (W : World) (n0 sp dp most : Nat) (ws : List UInt8) (any : Bool) (l : LSt) : Prop :=
  (∃ vb, Has W sp 90 #[.pointer (some ⟨dp, 0, none⟩), .bool any, vb, .bool l.long, .int .i64 (most : Int), .bool l.half] ∧ Bs W n0 vb l.bytes) ∧ Dec W dp ws ∧ 1 ≤ most ∧ most ≤ 65536 ∧ l.ok most
/-- None at all, or one that New did not make. -/
def NoS (w : World) (v : Option Addr) : Prop := v = none ∨ ∃ s, v = some ⟨s, 0, none⟩ ∧ w.cell? ⟨s, 4, none⟩ = some (.int .i64 0)
theorem sNone_no (sp most : Nat) (w : World) (h : w.cell? ⟨sp, 4, none⟩ = some (.int .i64 (most : Int))) (h1 : 1 ≤ most) : Calls Tryd.prog 60 #[.pointer (some ⟨sp, 0, none⟩)] w fun e w' => e = .returned (.bool false) ∧ w = w' := by
  have hi : (1 : Int) ≤ (most : Int) := by omega
  have hz : ¬ (most : Int) = 0 := by omega
  go_enter Tryd.func60, Tryd.ntmps60
  go_wp2
  go_ret
  exact ⟨ret_bool (by simp; omega), rfl⟩
theorem sNone_yes (v : Option Addr) (w : World) (h : NoS w v) : Calls Tryd.prog 60 #[.pointer v] w fun e w' => e = .returned (.bool true) ∧ w = w' := by
  rcases h with rfl | ⟨s, rfl, h⟩
  · go_enter Tryd.func60, Tryd.ntmps60
    go_wp2
    go_ret
    exact ⟨rfl, rfl⟩
  · go_enter Tryd.func60, Tryd.ntmps60
    go_wp2
    go_ret
    exact ⟨rfl, rfl⟩
/-- Is it one with which a line ends? -/
theorem isEnd_any (c : UInt8) (w : World) (h : Ends w) : Calls Tryd.prog 77 #[.int .u8 (c.toNat : Int)] w fun e w' => e = .returned (.bool (c == 13 || c == 10)) ∧ w = w' := by
  obtain ⟨e0, e1⟩ := h.cells
  clear h
  have hc : (c == 13) = decide ((c.toNat : Int) = 13) := by
    rw [Bool.eq_iff_iff, beq_iff_eq, decide_eq_true_iff]
    exact ⟨fun h => by rw [h]; rfl, fun h => UInt8.toNat_inj.1 (by show c.toNat = 13; omega)⟩
  have hd : (c == 10) = decide ((c.toNat : Int) = 10) := by
    rw [Bool.eq_iff_iff, beq_iff_eq, decide_eq_true_iff]
    exact ⟨fun h => by rw [h]; rfl, fun h => UInt8.toNat_inj.1 (by show c.toNat = 10; omega)⟩
  rw [hc, hd]
  generalize (c.toNat : Int) = z
  by_cases h13 : z = 13
  · subst h13
    go_enter Tryd.func77, Tryd.ntmps77
    go_wp2
    go_ret
    exact ⟨rfl, rfl⟩
  · go_enter Tryd.func77, Tryd.ntmps77
    go_wp2
    go_ret
    exact ⟨ret_bool (by rw [decide_eq_false h13, Bool.false_or, (show (z == 13) = false from beq_eq_false_iff_ne.2 h13), Bool.false_or]; rw [Bool.eq_iff_iff, beq_iff_eq, decide_eq_true_iff]), rfl⟩
/-- Where the first end stands. -/
theorem first_end (A : Option Addr) (t : List UInt8) (n c : Nat) (w : World) (hn : n = t.length) (h : Rd w (· < w.heap.size) A t) (hE : Ends w) (hm : n ≤ 1099511627776) :
    Calls Tryd.prog 76 #[.slice A n c, .func (.func 77) #[] #[]] w fun e w' => e = .returned (.int .i64 (firstEnd t : Int)) ∧ w = w' := by
  have hn' := Lib.hid hn
  have h' := Lib.hid h
  have hE' := Lib.hid hE
  clear hn h hE
  go_enter Tryd.func76, Tryd.ntmps76
  go_wp2
  go_loopw [9] (fun v W => ∃ k : Nat, v = .int .i64 (k : Int) ∧ k ≤ n ∧ k ≤ firstEnd t ∧ w = W) (fun v _ => n - (intOf v).toNat)
  case atStart => exact ⟨0, rfl, Nat.zero_le _, Nat.zero_le _, rfl⟩
  case round =>
    obtain ⟨k, rfl, hk, hkf, rfl⟩ := hrel
    have hkf' := Lib.hid hkf
    clear hkf
    by_cases hlt : k < n
    · have hki : (k : Int) < (n : Int) := by omega
      have hk0 : (0 : Int) ≤ (k : Int) := by omega
      obtain ⟨ad, rfl, _, hc⟩ := h'.out (by have := hn'.out; omega)
      have hkt : k < t.length := by have := hn'.out; omega
      have e0 := hc k _ (byts_at hkt)
      obtain ⟨ch, hch⟩ : ∃ ch, t[k] = ch := ⟨_, rfl⟩
      have hch' := Lib.hid hch
      rw [hch] at e0
      unfold byt at e0
      have hie := isEnd_any ch w hE'.out
      have hbq : Hid ((ch == 13 || ch == 10) = true → firstEnd t = k) := Lib.hid (fun hb => by
        have h1 := hkf'.out
        have h2 : ¬ k < firstEnd t := fun hlt2 => by
          have := List.not_of_lt_findIdx (p := fun c : UInt8 => c == 13 || c == 10) (xs := t) (i := k) hlt2
          rw [hch] at this
          rw [hb] at this
          simp at this
        omega)
      have hbn : Hid ((ch == 13 || ch == 10) = false → k + 1 ≤ firstEnd t) := Lib.hid (fun hb => by
        have h1 := hkf'.out
        rcases Nat.lt_or_ge k (firstEnd t) with h2 | h2
        · exact h2
        · have he : firstEnd t = k := by omega
          have := List.findIdx_getElem (p := fun c : UInt8 => c == 13 || c == 10) (xs := t) (w := by unfold firstEnd at he; omega)
          unfold firstEnd at he
          simp only [he, hch] at this
          rw [hb] at this
          cases this)
      clear hc hch
      cases hb : (ch == 13 || ch == 10) with
      | true =>
        rw [hb] at hie
        have hie' := Lib.hid hie
        have hf := hbq.out hb
        clear hie hb
        go_wp2_with (go_at_call 77; (with_reducible refine Calls.mono hie'.out ?_); rintro e w2 ⟨rfl, rfl⟩)
        refine bodyPost_ret (v := .int .i64 (k : Int)) (by simp [results, Tryd.results76, go_sem]) rfl ⟨by rw [hf], rfl⟩
      | false =>
        rw [hb] at hie
        have hie' := Lib.hid hie
        have hf := hbn.out hb
        clear hie hb
        go_wp2_with (go_at_call 77; (with_reducible refine Calls.mono hie'.out ?_); rintro e w2 ⟨rfl, rfl⟩)
        exact ⟨⟨k + 1, by go_num, by omega, hf, trivial⟩, by simp [intOf]; omega⟩
    · obtain rfl : k = n := by omega
      go_wp2
      go_ret
      refine ⟨?_, rfl⟩
      have h1 := hkf'.out
      have h2 := firstEnd_le t
      have h3 := hn'.out
      rw [show firstEnd t = k by omega]
      rfl
end Go.Proofs.YthdmmlaahjgijaaDoor
