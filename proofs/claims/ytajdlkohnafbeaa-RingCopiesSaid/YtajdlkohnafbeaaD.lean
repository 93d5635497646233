import Derived.Test.YtajdlkohnafbeaaC
namespace Go.Proofs.Ytajdlkohnafbeaa
open Go.RowKit

/-! ## Set, Put -/
theorem mod_le_inj {a b m : Nat} (h : a % m = b % m) (hab : a ≤ b) (h2 : b < a + m) : a = b := by
  have h3 : (b - a) % m = 0 := Nat.sub_mod_eq_zero_of_mod_eq h.symm
  rw [Nat.mod_eq_of_lt (by omega)] at h3
  omega
theorem mod_inj {a b m : Nat} (h : a % m = b % m) (h1 : a < b + m) (h2 : b < a + m) : a = b := by
  rcases Nat.le_total a b with k | k
  · exact mod_le_inj h k h2
  · exact (mod_le_inj h.symm k h1).symm
/-- A value is laid at an index, whose place no other value has. -/
theorem RgAt.laid {W W' : World} {g r most cap first first' i : Nat} {cs : Array Value} {row vs vs' : List Int} {z : Int} (h : RgAt W g r most cap first cs row vs)
    (hg : Has W' g 50 #[.int .u64 (first' : Int), .int .u64 ((first' + vs'.length : Nat) : Int), .slice (some ⟨r, 0, none⟩) most cap]) (hr : Has W' r 3 (cs.setIfInBounds (i % most) (.int .i64 z)))
    (hat : ∀ k (hk : k < vs'.length), (first' + k ≠ i ∧ row[(first' + k) % most]? = some vs'[k] ∧ first' + k < i + most ∧ i < first' + k + most) ∨ (first' + k = i ∧ vs'[k] = z)) (hf : vs'.length ≤ most) (hl : first' + vs'.length ≤ 18446744073709551615) :
    Rg W' g r most first' vs' := by
  refine ⟨cap, _, row.set (i % most) z, hg, hr, fun j hj => ?_, by rw [List.length_set]; exact h.len, fun k hk => ?_, h.pos, h.top, hf, hl⟩
  · rw [List.length_set] at hj
    have hc := h.cells j hj
    have hjc : j < cs.size := (Array.getElem?_eq_some_iff.1 hc).1
    rw [Array.getElem?_setIfInBounds, List.getElem_set]
    split
    · rename_i e
      subst e
      rw [if_pos hjc]
    · exact hc
  · have hm : i % most < row.length := by rw [h.len]; exact Nat.mod_lt _ h.pos
    rcases hat k hk with ⟨hne, hv, h1, h2⟩ | ⟨he, hv⟩
    · rw [List.getElem?_set_ne (fun e => hne (mod_inj e.symm h1 h2))]
      exact hv
    · rw [he, List.getElem?_set_self hm, hv]
def setv (first : Nat) (vs : List Int) (i : Nat) (z : Int) : List Int := if first ≤ i then vs.set (i - first) z else vs
theorem setv_no {first : Nat} {vs : List Int} {i : Nat} {z : Int} (h : ¬ (first ≤ i ∧ i < first + vs.length)) : setv first vs i z = vs := by
  unfold setv
  split
  · exact List.set_eq_of_length_le (by omega)
  · rfl
theorem setv_length (first : Nat) (vs : List Int) (i : Nat) (z : Int) : (setv first vs i z).length = vs.length := by
  unfold setv
  split
  · simp
  · rfl
def SetOf (g r most first i : Nat) (vs : List Int) (z : Int) (w : World) (e : Ending) (w' : World) : Prop :=
  e = .returned (.tuple #[.int .i64 (got first vs i).1, .bool (got first vs i).2]) ∧ Rg w' g r most first (setv first vs i z) ∧ Turn g r w w' ∧ w'.heap.size = w.heap.size
theorem set_none (v : Option Addr) (i : Nat) (z : Int) (w : World) (h : NoR w v) :
    Calls Try.prog 19 #[.pointer v, .int .u64 (i : Int), .int .i64 z] w fun e w' => e = .returned (.tuple #[.int .i64 0, .bool false]) ∧ w = w' := by
  have hn := Lib.hid (get_none v i w h)
  clear h
  go_enter Try.func19, Try.ntmps19
  go_wp2_with (go_at_call 18; refine hn.out.mono ?_; rintro e w' ⟨rfl, rfl⟩)
  go_ret2
  exact ⟨rfl, rfl⟩
theorem set_any (g r most first i : Nat) (vs : List Int) (z : Int) (w : World) (h : Rg w g r most first vs) (hi : i ≤ 18446744073709551615) :
    Calls Try.prog 19 #[.pointer (some ⟨g, 0, none⟩), .int .u64 (i : Int), .int .i64 z] w (SetOf g r most first i vs z w) := by
  have hget := get_any g r most first i vs w h hi
  have h0 := Lib.hid h
  by_cases hin : first ≤ i ∧ i < first + vs.length
  · obtain ⟨x, hx⟩ : ∃ x, got first vs i = (x, true) := ⟨_, got_yes hin.1 (by omega)⟩
    rw [hx] at hget
    have hx' := Lib.hid hx
    have hget' := Lib.hid hget
    obtain ⟨cap, cs, row, hat⟩ := h
    have hcs : most ≤ cs.size := by
      have h1 := hat.len
      have h2 := hat.cells (most - 1) (by have := hat.pos; omega)
      have := (Array.getElem?_eq_some_iff.1 h2).1
      omega
    have hlay := Lib.hid (fun q => lay_any g r most cap (i % most) i z cs (w.drewN q) (hat.head.cell 2) hat.pos hat.top hi rfl hat.body hcs)
    have hat' := Lib.hid hat
    have hin' := Lib.hid hin
    clear hget hx hin h0 hi hat hcs
    go_enter Try.func19, Try.ntmps19
    go_wp2_with (first | (go_at_call 18; refine hget'.out.mono ?_; rintro e w' ⟨rfl, q, rfl⟩) | (go_at_call 36; refine (hlay.out q).mono ?_; rintro e w' ⟨rfl, q2, rfl⟩))
    go_ret2
    have ha := hat'.out
    obtain ⟨hi1, hi2⟩ := hin'.out
    have hfit := ha.fit
    have hsl := setv_length first vs i z
    refine ⟨by rw [hx'.out]; rfl, ?_, ⟨rfl, rfl, rfl, by simp [World.setCell], fun k _ _ hk => Below.heap_setCell w ⟨r, _, none⟩ _ k hk⟩, by simp [World.setCell]⟩
    refine ha.laid (i := i) (z := z) ?_ (Has.put (W := w) ha.body (i % most) (.int .i64 z)) (fun k hk => ?_) (by rw [hsl]; exact hfit) (by rw [hsl]; exact ha.last)
    · rw [hsl]
      exact (Below.heap_setCell w ⟨r, _, none⟩ _ g ha.ne).trans ha.head
    · rw [hsl] at hk
      by_cases hk2 : first + k = i
      · refine .inr ⟨hk2, ?_⟩
        have hk3 : i - first = k := by omega
        unfold setv
        simp only [if_pos hi1, hk3, List.getElem_set_self]
      · refine .inl ⟨hk2, ?_, by omega, by omega⟩
        rw [ha.at_ k hk]
        unfold setv
        simp only [if_pos hi1]
        rw [List.getElem_set_ne (by omega)]
  · have hx := got_no hin
    rw [hx] at hget
    have hx' := Lib.hid hx
    have hget' := Lib.hid hget
    have hs := Lib.hid (setv_no (z := z) hin)
    clear hget hx hin h hi
    go_enter Try.func19, Try.ntmps19
    go_wp2_with (first | (go_at_call 18; refine hget'.out.mono ?_; rintro e w' ⟨rfl, q, rfl⟩))
    go_ret2
    refine ⟨by rw [hx'.out]; rfl, by rw [hs.out]; exact h0.out.kept rfl rfl, (Turn.refl _ _ _).draws q, rfl⟩
theorem put_none (v : Option Addr) (z : Int) (w : World) (h : NoR w v) :
    Calls Try.prog 16 #[.pointer v, .int .i64 z] w fun e w' => e = .returned (.tuple #[.int .u64 0, .int .i64 0, .bool false, .int .i64 1]) ∧ w = w' := by
  have hn := Lib.hid (none_yes v w h)
  clear h
  go_enter Try.func16, Try.ntmps16
  go_wp2
  refine wp_scope_on 0 rfl ?_
  go_wp2_with (go_at_call 30; refine hn.out.mono ?_; rintro e w' ⟨rfl, rfl⟩)
  go_step3
  refine ⟨rfl, ?_⟩
  go_wp2
  rw [Exit.noGoto_ret]
  exact bodyPost_ret (v := .tuple #[.int .u64 0, .int .i64 0, .bool false, .int .i64 1]) (by simp [results, Try.results16, go_sem]) rfl ⟨rfl, rfl⟩
theorem put_full (g r most first : Nat) (vs : List Int) (z : Int) (w : World) (h : Rg w g r most first vs) (hf : 18446744073709551614 < first + vs.length) :
    Calls Try.prog 16 #[.pointer (some ⟨g, 0, none⟩), .int .i64 z] w fun e w' => e = .returned (.tuple #[.int .u64 0, .int .i64 0, .bool false, .int .i64 111]) ∧ w = w' := by
  have hn := Lib.hid (none_no g r most first vs w h)
  have hs := spent_any g r most first vs w h
  rw [decide_eq_true hf] at hs
  have hs' := Lib.hid hs
  obtain ⟨cap, c2⟩ := h.c2
  clear h hs hf
  go_enter Try.func16, Try.ntmps16
  go_wp2
  refine wp_scope_on 0 rfl ?_
  go_wp2_with (first | (go_at_call 30; refine hn.out.mono ?_; rintro e w' ⟨rfl, rfl⟩) | (go_at_call 33; refine hs'.out.mono ?_; rintro e w' ⟨rfl, rfl⟩))
  go_step3
  refine ⟨rfl, ?_⟩
  go_wp2
  rw [Exit.noGoto_ret]
  exact bodyPost_ret (v := .tuple #[.int .u64 0, .int .i64 0, .bool false, .int .i64 111]) (by simp [results, Try.results16, go_sem]) rfl ⟨rfl, rfl⟩
theorem RgAt.big {W : World} {g r most cap first : Nat} {cs : Array Value} {row vs : List Int} (h : RgAt W g r most cap first cs row vs) : most ≤ cs.size := by
  have h1 := h.len
  have h2 := h.cells (most - 1) (by have := h.pos; omega)
  have := (Array.getElem?_eq_some_iff.1 h2).1
  omega
theorem RgAt.room {W W' : World} {g r most cap first n : Nat} {cs : Array Value} {row vs : List Int} {z : Int} (h : RgAt W g r most cap first cs row vs) (hn : first + vs.length = n) (hl : n ≤ 18446744073709551614) (hr : vs.length < most)
    (hg : Has W' g 50 #[.int .u64 (first : Int), .int .u64 ((n + 1 : Nat) : Int), .slice (some ⟨r, 0, none⟩) most cap]) (hb : Has W' r 3 (cs.setIfInBounds (n % most) (.int .i64 z))) :
    Rg W' g r most first (vs ++ [z]) := by
  have hlen : (vs ++ [z]).length = vs.length + 1 := by simp
  refine h.laid (i := n) (z := z) ?_ hb (fun k hk => ?_) (by rw [hlen]; omega) (by rw [hlen]; omega)
  · rw [show first + (vs ++ [z]).length = n + 1 by rw [hlen]; omega]
    exact hg
  · rw [hlen] at hk
    by_cases hk2 : k < vs.length
    · exact .inl ⟨by omega, by rw [h.at_ k hk2, List.getElem_append_left hk2], by omega, by omega⟩
    · exact .inr ⟨by omega, by rw [List.getElem_append_right (by omega)]; simp⟩
def PutOk (g r most first n : Nat) (vs : List Int) (gone : Int) (had : Bool) (w : World) (e : Ending) (w' : World) : Prop :=
  e = .returned (.tuple #[.int .u64 (n : Int), .int .i64 gone, .bool had, .int .i64 0]) ∧ Rg w' g r most first vs ∧ Turn g r w w' ∧ w'.heap.size = w.heap.size
theorem put_room (g r most first n : Nat) (vs : List Int) (z : Int) (w : World) (h : Rg w g r most first vs) (hn : first + vs.length = n) (hl : n ≤ 18446744073709551614) (hr : vs.length < most) :
    Calls Try.prog 16 #[.pointer (some ⟨g, 0, none⟩), .int .i64 z] w (PutOk g r most first n (vs ++ [z]) 0 false w) := by
  have hno := Lib.hid (none_no g r most first vs w h)
  have hs := spent_any g r most first vs w h
  rw [decide_eq_false (by omega)] at hs
  have hs' := Lib.hid hs
  have hc := Lib.hid (fun q => count_any g r most first vs (w.drewN q) (h.kept rfl rfl))
  obtain ⟨cap, cs, row, hat⟩ := h
  have c2 : w.cell? ⟨g, 2, none⟩ = some (.slice (some ⟨r, 0, none⟩) most cap) := hat.head.cell 2
  have hd := hat.head
  rw [hn] at hd
  have hle := Lib.hid (fun q => lengthen_any g n _ _ (w.drewN q) hd hl)
  have hlay := Lib.hid (fun q => lay_any g r most cap (n % most) n z cs ((w.drewN q).setCell ⟨g, 1, none⟩ (.int .u64 ((n + 1 : Nat) : Int))).drew ((hd.put 1 (.int .u64 ((n + 1 : Nat) : Int))).cell 2) hat.pos hat.top (by omega) rfl ((Below.heap_setCell w ⟨g, 1, none⟩ _ r hat.ne.symm).trans hat.body) hat.big)
  have hat' := Lib.hid hat
  have hd' := Lib.hid hd
  have hn' := Lib.hid hn
  have hne : ((vs.length : Int) == (most : Int)) = false := by rw [beq_eq_false_iff_ne]; omega
  clear hs hat hd hn
  go_enter Try.func16, Try.ntmps16
  go_wp2
  refine wp_scope_on 0 rfl ?_
  go_wp2_with (first | (go_at_call 30; refine hno.out.mono ?_; rintro e w' ⟨rfl, rfl⟩) | (go_at_call 33; refine hs'.out.mono ?_; rintro e w' ⟨rfl, rfl⟩))
  go_quiet ((go_at_call 34; exact Calls.quiet_of (hc.out _)))
  go_wp2_with (first | (go_at_call 35; refine (hle.out _).mono ?_; rintro e w' ⟨rfl, rfl⟩) | (go_at_call 36; refine (hlay.out _).mono ?_; rintro e w' ⟨rfl, q2, rfl⟩))
  rw [jump_ret]
  have ha := hat'.out
  refine bodyPost_ret (v := .tuple #[.int .u64 (n : Int), .int .i64 0, .bool false, .int .i64 0]) (by simp [results, Try.results16, go_sem]) rfl ⟨rfl, ha.room (n := n) hn'.out hl hr ?_ ?_, ?_, ?_⟩
  · exact (Below.heap_setCell ((w.drewN nq).setCell ⟨g, 1, none⟩ (.int .u64 ((n + 1 : Nat) : Int))) ⟨r, _, none⟩ _ g ha.ne).trans (Has.put (W := w) hd'.out 1 (.int .u64 ((n + 1 : Nat) : Int)))
  · exact Has.put (W := (w.setCell ⟨g, 1, none⟩ (.int .u64 ((n + 1 : Nat) : Int)))) ((Below.heap_setCell w ⟨g, 1, none⟩ _ r ha.ne.symm).trans ha.body) _ _
  · exact ((((Turn.refl g r w).draws nq).trans (turn_cell g r 1 (w.drewN nq) (.int .u64 ((n : Int) + 1)))).trans (turn_row g r (n % most) _ (.int .i64 z))).draws (1 + q2)
  · simp [World.setCell]
theorem put_over (g r most first n : Nat) (v : Int) (vs : List Int) (z : Int) (w : World) (h : Rg w g r most first (v :: vs)) (hn : first + 1 + vs.length = n) (hl : n ≤ 18446744073709551614) (hr : vs.length + 1 = most) :
    Calls Try.prog 16 #[.pointer (some ⟨g, 0, none⟩), .int .i64 z] w (PutOk g r most (first + 1) n (vs ++ [z]) v true w) := by
  have hno := Lib.hid (none_no g r most first (v :: vs) w h)
  have hs := spent_any g r most first (v :: vs) w h
  rw [decide_eq_false (by simp only [List.length_cons]; omega)] at hs
  have hs' := Lib.hid hs
  have hc := Lib.hid (fun q => count_any g r most first (v :: vs) (w.drewN q) (h.kept rfl rfl))
  have hlc : (((v :: vs).length : Nat) : Int) = (most : Int) := by simp only [List.length_cons]; omega
  rw [hlc] at hc
  have hdr := Lib.hid (fun q => drop_any g r most first v vs (w.drewN q) (h.kept rfl rfl))
  obtain ⟨cap, c2⟩ := h.c2
  have hn' := Lib.hid hn
  have hr' := Lib.hid hr
  have hm : ((most : Int) == (most : Int)) = true := by simp
  clear hs hn hr hlc h
  go_enter Try.func16, Try.ntmps16
  go_wp2
  refine wp_scope_on 0 rfl ?_
  go_wp2_with (first | (go_at_call 30; refine hno.out.mono ?_; rintro e w' ⟨rfl, rfl⟩) | (go_at_call 33; refine hs'.out.mono ?_; rintro e w' ⟨rfl, rfl⟩))
  go_quiet ((go_at_call 34; exact Calls.quiet_of (hc.out _)))
  go_wp2_with fail
  refine (hdr.out _).mono ?_
  rintro e w3 ⟨rfl, hR3, hT3, hz3⟩
  obtain ⟨cap3, cs, row, hat⟩ := hR3
  have hd := hat.head
  rw [hn'.out] at hd
  have hle := Lib.hid (fun q => lengthen_any g n _ _ (w3.drewN q) hd hl)
  have hlay := Lib.hid (fun q => lay_any g r most cap3 (n % most) n z cs ((w3.drewN q).setCell ⟨g, 1, none⟩ (.int .u64 ((n + 1 : Nat) : Int))).drew ((hd.put 1 (.int .u64 ((n + 1 : Nat) : Int))).cell 2) hat.pos hat.top (by omega) rfl ((Below.heap_setCell w3 ⟨g, 1, none⟩ _ r hat.ne.symm).trans hat.body) hat.big)
  have hat' := Lib.hid hat
  have hd' := Lib.hid hd
  have hT3' := Lib.hid hT3
  have hz3' := Lib.hid hz3
  clear hat hd hT3 hz3
  go_wp2_with (first | (go_at_call 35; refine (hle.out 0).mono ?_; rintro e w' ⟨rfl, rfl⟩) | (go_at_call 36; refine (hlay.out 0).mono ?_; rintro e w' ⟨rfl, q2, rfl⟩))
  rw [jump_ret]
  have ha := hat'.out
  refine bodyPost_ret (v := .tuple #[.int .u64 (n : Int), .int .i64 v, .bool true, .int .i64 0]) (by simp [results, Try.results16, go_sem]) rfl ⟨rfl, ha.room (n := n) hn'.out hl (by have := hr'.out; omega) ?_ ?_, ?_, ?_⟩
  · exact (Below.heap_setCell (w3.setCell ⟨g, 1, none⟩ (.int .u64 ((n + 1 : Nat) : Int))) ⟨r, _, none⟩ _ g ha.ne).trans (Has.put (W := w3) hd'.out 1 (.int .u64 ((n + 1 : Nat) : Int)))
  · exact Has.put (W := (w3.setCell ⟨g, 1, none⟩ (.int .u64 ((n + 1 : Nat) : Int)))) ((Below.heap_setCell w3 ⟨g, 1, none⟩ _ r ha.ne.symm).trans ha.body) _ _
  · have h1 : Turn g r w w3 := ⟨hT3'.out.os, hT3'.out.tape, hT3'.out.output, hT3'.out.size, hT3'.out.block⟩
    exact ((((h1.draws 0).trans (turn_cell g r 1 (w3.drewN 0) (.int .u64 ((n : Int) + 1)))).trans (turn_row g r (n % most) _ (.int .i64 z))).draws (1 + q2))
  · have := hz3'.out
    simpa [World.setCell] using this
end Go.Proofs.Ytajdlkohnafbeaa
