import Derived.Test.YthdmmlaahjgijaaDoorLnC
import Derived.Test.YthdmmlaahjgijaaDoorKi
namespace Go.Proofs.YthdmmlaahjgijaaDoor
open Go.RowKit Go.Shelf

/-! ## The mark, left out -/
def markB (t : List UInt8) : Bool := decide (t.take 3 = [239, 187, 191])
def trimL (t : List UInt8) : List UInt8 := if markB t = true then t.drop 3 else t
theorem extract_three (s : ByteArray) : (s.extract 0 3).toList = s.data.toList.take 3 := by
  rw [ByteArray.toList_eq, ByteArray.data_extract, Array.toList_extract]
  simp
theorem markB_len {t : List UInt8} (h : markB t = true) : 3 ≤ t.length := by
  unfold markB at h
  have h := of_decide_eq_true h
  have := congrArg List.length h
  rw [List.length_take] at this
  simp at this
  omega
theorem hasPrefix_any (s : ByteArray) (w : World) : Calls Tryd.prog 80 #[.string s, .string ⟨#[239, 187, 191]⟩] w fun e w' => e = .returned (.bool (markB s.data.toList)) ∧ w = w' := by
  have hsl : s.data.toList.length = s.size := by simp only [Array.length_toList]; rfl
  by_cases h : 3 ≤ s.size
  · have hi : (3 : Int) ≤ (s.size : Int) := by omega
    go_enter Tryd.func80, Tryd.ntmps80
    go_wp2
    go_ret
    refine ⟨ret_bool ?_, rfl⟩
    rw [extract_three]
    unfold markB
    rw [Bool.eq_iff_iff, beq_iff_eq, decide_eq_true_iff]
  · have hi : (s.size : Int) < 3 := by omega
    have hf : markB s.data.toList = false := by
      cases hb : markB s.data.toList with
      | false => rfl
      | true => have := markB_len hb; omega
    rw [hf]
    clear hsl hf
    go_enter Tryd.func80, Tryd.ntmps80
    go_wp2
    go_ret
    exact ⟨rfl, rfl⟩
theorem litePrefix_any (s : ByteArray) (w : World) (hm : s.size ≤ 9223372036854775807) : Calls Tryd.prog 79 #[.string s, .string ⟨#[239, 187, 191]⟩] w fun e w' => e = .returned (.string ⟨(trimL s.data.toList).toArray⟩) ∧ w = w' := by
  have hsl : s.data.toList.length = s.size := by simp only [Array.length_toList]; rfl
  have hp := hasPrefix_any s w
  unfold trimL
  cases hb : markB s.data.toList with
  | true =>
    have h3 := markB_len hb
    have hi : (3 : Int) ≤ (s.size : Int) := by omega
    rw [hb] at hp
    have hp' := Lib.hid hp
    have hx := Lib.hid (extract_to_end s 3)
    clear hp hb hsl h3
    go_enter Tryd.func79, Tryd.ntmps79
    go_wp2_with (go_at_call 80; (with_reducible refine Calls.mono hp'.out ?_); rintro e w2 ⟨rfl, rfl⟩)
    go_ret
    refine ⟨?_, rfl⟩
    show Ending.returned (.string (s.extract 3 s.size)) = _
    rw [← hx.out]
  | false =>
    rw [hb] at hp
    have hp' := Lib.hid hp
    clear hp hb hsl
    go_enter Tryd.func79, Tryd.ntmps79
    go_wp2_with (go_at_call 80; (with_reducible refine Calls.mono hp'.out ?_); rintro e w2 ⟨rfl, rfl⟩)
    go_ret
    exact ⟨by simp, rfl⟩
theorem trimPrefix_any (s : ByteArray) (w : World) (hm : s.size ≤ 9223372036854775807) : Calls Tryd.prog 75 #[.string s, .string ⟨#[239, 187, 191]⟩] w fun e w' => e = .returned (.string ⟨(trimL s.data.toList).toArray⟩) ∧ w = w' := by
  have hp := Lib.hid (litePrefix_any s w hm)
  go_enter Tryd.func75, Tryd.ntmps75
  go_wp2_with (go_at_call 79; (with_reducible refine Calls.mono hp.out ?_); rintro e w2 ⟨rfl, rfl⟩)
  go_ret
  exact ⟨rfl, rfl⟩
end Go.Proofs.YthdmmlaahjgijaaDoor
namespace Go.Proofs.YthdmmlaahjgijaaDoor
open Go.RowKit Go.Shelf

/-! ## The text of bytes that come -/
def textL (any : Bool) (t : List UInt8) : List UInt8 := if any = false ∧ t ≠ [] then trimL t else t
def anyL (any : Bool) (t : List UInt8) : Bool := any || decide (t ≠ [])
/-- A text's bytes, in a row of their own. -/
theorem str_fun2 (s : ByteArray) (hs : s.size ≤ maxLen) : ∃ (cF : World → Nat) (wF : World → World), ∀ W, (convert 9 22 (.string s)).run Tryd.prog W = .ok (.slice (some ⟨W.heap.size, 0, none⟩) s.size (cF W)) (wF W) ∧ Rd (wF W) (· = W.heap.size) (some ⟨W.heap.size, 0, none⟩) s.data.toList ∧ Below W.heap.size W (wF W) ∧ (wF W).heap.size = W.heap.size + 1 ∧ s.size ≤ cF W ∧ cF W ≤ 9223372036854775807 ∧ ∃ cs fr, (wF W).heap[W.heap.size]? = some (.cells cs 5 fr) := by
  have key : ∀ W : World, ∃ c W', (convert 9 22 (.string s)).run Tryd.prog W = .ok (.slice (some ⟨W.heap.size, 0, none⟩) s.size c) W' ∧ Rd W' (· = W.heap.size) (some ⟨W.heap.size, 0, none⟩) s.data.toList ∧ Below W.heap.size W W' ∧ W'.heap.size = W.heap.size + 1 ∧ s.size ≤ c ∧ c ≤ 9223372036854775807 ∧ ∃ cs fr, W'.heap[W.heap.size]? = some (.cells cs 5 fr) := fun W => by
    obtain ⟨c, W', h1, h2⟩ := str_bytes W s hs
    have h3 := run_bytes_of_string W 9 22 5 s Tryd.underlying9 Tryd.underlying22 Tryd.underlying5
    rw [h1] at h3
    injection h3 with h3 h4
    subst h4
    obtain ⟨a1, a2, a3, a4, a5⟩ := h2
    exact ⟨c, _, h1, a1, a2, a3, a4, a5, _, _, World.alloc_heap_new W.drew _⟩
  exact ⟨fun W => (key W).choose, fun W => (key W).choose_spec.choose, fun W => (key W).choose_spec.choose_spec⟩
def Texted (sp dp : Nat) (vb mm : Value) (any long half : Bool) (ws b : List UInt8) (w : World) (e : Ending) (w' : World) : Prop :=
  ∃ g cs fr c, e = .returned (.slice (some ⟨g, 0, none⟩) (textL any (run4 (ws ++ b)).1).length c) ∧ (w.heap.size ≤ g ∧ w'.heap[g]? = some (.cells cs 5 fr)) ∧ Rd w' (· = g) (some ⟨g, 0, none⟩) (textL any (run4 (ws ++ b)).1) ∧ (textL any (run4 (ws ++ b)).1).length ≤ c ∧ c ≤ 9223372036854775807 ∧
    Has w' sp 90 #[.pointer (some ⟨dp, 0, none⟩), .bool (anyL any (run4 (ws ++ b)).1), vb, .bool long, mm, .bool half] ∧ Dec w' dp (run4 (ws ++ b)).2 ∧ Chg (fun k => k = sp ∨ k = dp) w w'
theorem trimL_len (t : List UInt8) : (trimL t).length ≤ t.length := by
  unfold trimL
  split
  · rw [List.length_drop]; omega
  · exact Nat.le_refl _
set_option maxRecDepth 100000 in
theorem text_any (sp dp : Nat) (vb mm : Value) (any long half : Bool) (ws b : List UInt8) (B : Option Addr) (n c : Nat) (w : World) (hs : Has w sp 90 #[.pointer (some ⟨dp, 0, none⟩), .bool any, vb, .bool long, mm, .bool half]) (hd : Dec w dp ws)
    (hn : n = b.length) (hr : Rd w (· < w.heap.size) B b) (hT : Tab w) (hl : n ≤ 1000000) :
    Calls Tryd.prog 70 #[.pointer (some ⟨sp, 0, none⟩), .slice B n c] w (Texted sp dp vb mm any long half ws b w) := by
  have hw := write_any dp ws b B n c w hd hn hr hT (by omega)
  have hlen : (run4 (ws ++ b)).1.length ≤ 3 * (3 + n) := by
    have h1 := run4_len (ws ++ b)
    have h2 := hd.len
    rw [List.length_append] at h1
    omega
  have hne : ¬ sp = dp := fun e => by
    subst e
    obtain ⟨_, _, _, _, _, h⟩ := hd
    exact Has.apart hs h (by decide) rfl
  unfold Wrote at hw
  unfold Texted
  obtain ⟨r, hre⟩ : ∃ r, run4 (ws ++ b) = r := ⟨_, rfl⟩
  rw [hre] at hw hlen ⊢
  obtain ⟨tl, ws'⟩ := r
  simp only at hw hlen ⊢
  have e0 := hs.cell 0
  have hs' := Lib.hid hs
  have hw' := Lib.hid hw
  clear hw hs hd hn hr hT hre
  by_cases hc : any = false ∧ tl ≠ []
  · obtain ⟨rfl, ht⟩ := hc
    have htx : textL false tl = trimL tl := by unfold textL; rw [if_pos ⟨rfl, ht⟩]
    have hax : anyL false tl = true := by unfold anyL; simp [ht]
    rw [htx, hax]
    have hsz : (⟨tl.toArray⟩ : ByteArray).size = tl.length := by show tl.toArray.size = _; simp
    have htp := Lib.hid (fun W => trimPrefix_any ⟨tl.toArray⟩ W (by rw [hsz]; omega))
    have hll := trimL_len tl
    obtain ⟨tt, htt⟩ : ∃ tt, trimL tl = tt := ⟨_, rfl⟩
    rw [htt] at hll htp ⊢
    have hsz2 : (⟨tt.toArray⟩ : ByteArray).size = tt.length := by show tt.toArray.size = _; simp
    obtain ⟨cF, wF, hstr⟩ := str_fun2 ⟨tt.toArray⟩ (by rw [hsz2]; unfold maxLen; omega)
    rw [hsz2] at hstr
    have hsc := fun W => (hstr W).1
    have hstr' := Lib.hid (fun W => (hstr W).2)
    have hie : tl.isEmpty = false := by cases tl with
      | nil => exact absurd rfl ht
      | cons => rfl
    clear hstr hsz hsz2 htt hax htx hll
    go_enter Tryd.func70, Tryd.ntmps70
    go_wp2_with (first
      | (go_at_call 26; (with_reducible refine Calls.mono hw'.out ?_); rintro e w2 ⟨rfl, hD2, hC2⟩; have hs2 := hC2.has hne hs'.out; have e1 := hs2.cell 1; have f1 := hs2.free 1; have hs2' := Lib.hid hs2; have hD2' := Lib.hid hD2; have hC2' := Lib.hid hC2; clear hs2 hD2 hC2)
      | (go_at_call 75; (with_reducible refine Calls.mono (htp.out _) ?_); rintro e w4 ⟨rfl, rfl⟩))
    go_ret
    obtain ⟨r1, r2, r3, r4, r5, cs6, fr6, r6⟩ := hstr'.out (w2.setCell ⟨sp, 1, none⟩ (.bool true))
    have hsw : (w2.setCell ⟨sp, 1, none⟩ (.bool true)).heap.size = w2.heap.size := by simp
    have hg := hC2'.out.size
    rw [hsw] at r1 r3 r6
    refine ⟨_, cs6, fr6, _, rfl, ⟨by omega, r6⟩, r1, r4, r5, ?_, ?_, ?_⟩
    · have := (hs2'.out.put 1 (.bool true)).below r2 (hs2'.out.put 1 (.bool true)).lt
      simpa using this
    · exact (hD2'.out.kept (Below.heap_setCell _ ⟨sp, 1, none⟩ _ dp (fun e => hne e.symm))).below r2
    · have hset : Chg (fun k => k = sp ∨ k = dp) w2 (w2.setCell ⟨sp, 1, none⟩ (.bool true)) := ⟨rfl, rfl, rfl, by simp, fun k _ hn => Below.heap_setCell _ ⟨sp, 1, none⟩ _ k (fun e => hn (.inl e))⟩
      exact ((hC2'.out.mono (fun k _ h => .inr h)).trans hset).trans (.of_below r2)
  · have htx : textL any tl = tl := by unfold textL; rw [if_neg hc]
    have hax : anyL any tl = any := by
      unfold anyL
      cases any with
      | true => rfl
      | false => simp at hc; simp [hc]
    rw [htx, hax]
    have hsz : (⟨tl.toArray⟩ : ByteArray).size = tl.length := by show tl.toArray.size = _; simp
    obtain ⟨cF, wF, hstr⟩ := str_fun2 ⟨tl.toArray⟩ (by rw [hsz]; unfold maxLen; omega)
    rw [hsz] at hstr
    have hsc := fun W => (hstr W).1
    have hstr' := Lib.hid (fun W => (hstr W).2)
    clear hstr hsz hax htx
    have hca : any = true ∨ (any = false ∧ tl = []) := by
      cases any with
      | true => exact .inl rfl
      | false => exact .inr ⟨rfl, Decidable.byContradiction fun h => hc ⟨rfl, h⟩⟩
    clear hc
    rcases hca with rfl | ⟨rfl, rfl⟩
    all_goals
      go_enter Tryd.func70, Tryd.ntmps70
      go_wp2_with (go_at_call 26; (with_reducible refine Calls.mono hw'.out ?_); rintro e w2 ⟨rfl, hD2, hC2⟩; have hs2 := hC2.has hne hs'.out; have e1 := hs2.cell 1; have f1 := hs2.free 1; have hs2' := Lib.hid hs2; have hD2' := Lib.hid hD2; have hC2' := Lib.hid hC2; clear hs2 hD2 hC2)
      go_ret
      obtain ⟨r1, r2, r3, r4, r5, cs6, fr6, r6⟩ := hstr'.out w2
      have hg := hC2'.out.size
      exact ⟨_, cs6, fr6, _, rfl, ⟨by omega, r6⟩, r1, r4, r5, hs2'.out.below r2 hs2'.out.lt, hD2'.out.below r2, (hC2'.out.mono (fun k _ h => .inr h)).trans (.of_below r2)⟩
end Go.Proofs.YthdmmlaahjgijaaDoor
