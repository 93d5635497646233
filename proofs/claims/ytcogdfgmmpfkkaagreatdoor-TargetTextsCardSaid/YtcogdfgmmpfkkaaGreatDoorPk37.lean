import Derived.Test.YtcogdfgmmpfkkaaGreatDoorPk36
namespace Go.Proofs.YtcogdfgmmpfkkaaGreatDoor
open Go.RowKit Go.Shelf
attribute [local go_sem] Oper.semAt_some

/-! ## A target that may not be written -/
theorem must_at {b : Bool} (hb : b = false) (n : Int) (w : World) : Calls Tryz.prog 63 #[.bool b, .int .i64 n] w fun e w' => e = gaveE n ∧ w' = w := by
  subst hb
  exact must_no n w
theorem right_split (t : TgL) : rightTg t = (decide (0 < t.1.length) && t.1.all partB) := by
  unfold rightTg
  congr 1
  rw [decide_eq_decide]
  cases t.1 <;> simp
set_option maxRecDepth 100000 in
set_option maxHeartbeats 4000000 in
theorem written_none (A1 A2 : Option Addr) (c1 c2 : Nat) (t : TgL) (w : World) (ht : t.1.length = 0) (hx : Txs w A1 t.1) :
    Calls Tryz.prog 38 #[.agg #[.slice A1 t.1.length c1, .slice A2 t.2.length c2]] w fun e w' => e = gaveE 2 ∧ Below w.heap.size w w' := by
  obtain ⟨n, hn⟩ : ∃ n, w.heap.size = n := ⟨_, rfl⟩
  obtain ⟨w1, h1⟩ : ∃ w1, w.alloc (.cells #[.slice A1 t.1.length c1, .slice A2 t.2.length c2] 26) = w1 := ⟨_, rfl⟩
  have hB1 : Below w.heap.size w w1 := by rw [← h1]; exact (Below.refl _ _).alloc (Nat.le_refl _) _
  have z0 : Has w1 n 26 #[.slice A1 t.1.length c1, .slice A2 t.2.length c2] := by rw [← h1, ← hn]; exact Has.new _ _ _
  have hz1 : w1.heap.size = n + 1 := by rw [← h1, ← hn]; simp
  have h0 := Lib.hid (ofPart_any w1)
  have hB1' := Lib.hid hB1
  have z0' := Lib.hid z0
  have hx' := Lib.hid hx
  have hI : decide (0 < t.1.length) = false := decide_eq_false (by omega)
  clear hB1 z0 hx ht
  go_enter Tryz.func38, Tryz.ntmps38
  go_wp2_with (first
    | (go_at_call 62; (with_reducible refine Calls.mono h0.out ?_); rintro e w2 ⟨rfl, hb2⟩; have hB3 := Lib.hid ((hB1'.out.trans (hb2.mono hB1'.out.size)).alloc (by have := hB1'.out.size; have := hb2.size; omega) (.cells #[.func (.func 80) #[] #[], .func (.func 81) #[] #[]] 79)); have z3 := ((z0'.out.below hb2 z0'.out.lt).alloc (.cells #[.func (.func 80) #[] #[], .func (.func 81) #[] #[]] 79)); have k3 := Lib.hid (Has.new w2 79 #[.func (.func 80) #[] #[], .func (.func 81) #[] #[]]); have d0 := z3.cell 0; have d1 := z3.cell 1; have z3' := Lib.hid z3; have hzz := Lib.hid (show n + 1 ≤ w2.heap.size by have := hb2.size; omega); clear hb2 z3)
    | (go_at_call 63; (with_reducible refine Calls.mono (must_no _ _) ?_); rintro e w7 ⟨rfl, hw7⟩; obtain rfl := hw7.symm))
  exact ⟨rfl, rfl, hB3.out⟩
set_option maxRecDepth 100000 in
set_option maxHeartbeats 4000000 in
theorem written_no (A1 A2 : Option Addr) (c1 c2 : Nat) (t : TgL) (w : World) (ht : 0 < t.1.length) (ha : t.1.all partB = false) (hf : FewT t) (hx : Txs w A1 t.1) :
    Calls Tryz.prog 38 #[.agg #[.slice A1 t.1.length c1, .slice A2 t.2.length c2]] w fun e w' => e = gaveE 2 ∧ Below w.heap.size w w' := by
  obtain ⟨n, hn⟩ : ∃ n, w.heap.size = n := ⟨_, rfl⟩
  obtain ⟨w1, h1⟩ : ∃ w1, w.alloc (.cells #[.slice A1 t.1.length c1, .slice A2 t.2.length c2] 26) = w1 := ⟨_, rfl⟩
  have hB1 : Below w.heap.size w w1 := by rw [← h1]; exact (Below.refl _ _).alloc (Nat.le_refl _) _
  have z0 : Has w1 n 26 #[.slice A1 t.1.length c1, .slice A2 t.2.length c2] := by rw [← h1, ← hn]; exact Has.new _ _ _
  have hz1 : w1.heap.size = n + 1 := by rw [← h1, ← hn]; simp
  have h0 := Lib.hid (ofPart_any w1)
  have hB1' := Lib.hid hB1
  have z0' := Lib.hid z0
  have hx' := Lib.hid hx
  have hI : (0 : Int) < (t.1.length : Int) := by omega
  have ha' := Lib.hid ha
  have hf' := Lib.hid hf
  have hli : (t.1.length : Int) ≤ 1000 := by have := hf.parts; omega
  clear hB1 z0 hx ha hf
  go_enter Tryz.func38, Tryz.ntmps38
  go_wp2_with (first
    | (go_at_call 62; (with_reducible refine Calls.mono h0.out ?_); rintro e w2 ⟨rfl, hb2⟩; have hB3 := Lib.hid ((hB1'.out.trans (hb2.mono hB1'.out.size)).alloc (by have := hB1'.out.size; have := hb2.size; omega) (.cells #[.func (.func 80) #[] #[], .func (.func 81) #[] #[]] 79)); have z3 := ((z0'.out.below hb2 z0'.out.lt).alloc (.cells #[.func (.func 80) #[] #[], .func (.func 81) #[] #[]] 79)); have k3 := Lib.hid (Has.new w2 79 #[.func (.func 80) #[] #[], .func (.func 81) #[] #[]]); have d0 := z3.cell 0; have d1 := z3.cell 1; have z3' := Lib.hid z3; have hzz := Lib.hid (show n + 1 ≤ w2.heap.size by have := hb2.size; omega); clear hb2 z3)
    | (go_at_call 63; (with_reducible refine Calls.mono (must_yes _ _) ?_); rintro e w7 ⟨rfl, hw7⟩; obtain rfl := hw7.symm))
  obtain ⟨w3, h3⟩ : ∃ w3, w2.alloc (.cells #[.func (.func 80) #[] #[], .func (.func 81) #[] #[]] 79) = w3 := ⟨_, rfl⟩
  rw [h3] at hB3 z3' k3 ⊢
  clear d0 d1 h3
  go_loopw [5, 19] (fun _ x W => ∃ j : Nat, j ≤ t.1.length ∧ x = .int .i64 (j : Int) ∧ (t.1.take j).all partB = true ∧ Below w3.heap.size w3 W) (fun _ x _ => t.1.length - (intOf x).toNat)
  case atStart => exact ⟨0, Nat.zero_le _, rfl, rfl, Below.refl _ _⟩
  case round =>
    obtain ⟨j, hj, rfl, hal, hb⟩ := hrel
    have hb' := Lib.hid hb
    have hal' := Lib.hid hal
    clear hal
    by_cases hlt : j < t.1.length
    · have hltI : (j : Int) < (t.1.length : Int) := by omega
      obtain ⟨b, o, rfl, hbl, hcs⟩ := ((hx'.out.below hB3.out).below hb) (by omega)
      obtain ⟨x, hxj⟩ : ∃ x, t.1[j] = x := ⟨_, rfl⟩
      have c0 := hcs j x (by rw [List.getElem?_eq_getElem hlt, hxj])
      have hxl := hf'.out.part x (by rw [← hxj]; exact List.getElem_mem hlt)
      have h2 := Lib.hid (mustBeP_any 2 x (by omega) w2.heap.size wr (k3.out.below hb k3.out.lt))
      rw [← partB_split] at h2
      unfold MustR at h2
      clear hcs hb
      cases hp : partB x with
      | false =>
        rw [hp] at h2
        simp only [Bool.false_eq_true, if_false] at h2
        go_wp2_with (go_at_call 48; (with_reducible refine Calls.mono h2.out ?_); rintro e w5 ⟨rfl, hb5⟩; have hb5' := Lib.hid hb5; clear hb5)
        have hA := hB3.out.trans (hb'.out.mono hB3.out.size)
        exact ⟨rfl, rfl, hA.trans (hb5'.out.mono hA.size)⟩
      | true =>
        rw [hp] at h2
        simp only [if_true] at h2
        have hal2 := Lib.hid (show (t.1.take (j + 1)).all partB = true by rw [take_next t.1 hlt, List.all_append, hal'.out, hxj]; simp [hp])
        go_wp2_with (go_at_call 48; (with_reducible refine Calls.mono h2.out ?_); rintro e w5 ⟨rfl, hb5⟩; have hb5' := Lib.hid hb5; clear hb5)
        exact ⟨⟨j + 1, by omega, by go_num, hal2.out, hb'.out.trans (hb5'.out.mono hb'.out.size)⟩, by simp [intOf]; omega⟩
    · obtain rfl : j = t.1.length := by omega
      have := hal'.out
      rw [List.take_length, ha'.out] at this
      cases this
end Go.Proofs.YtcogdfgmmpfkkaaGreatDoor
