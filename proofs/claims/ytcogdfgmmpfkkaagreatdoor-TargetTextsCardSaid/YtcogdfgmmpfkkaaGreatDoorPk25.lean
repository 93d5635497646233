import Derived.Test.YtcogdfgmmpfkkaaGreatDoorPk3
import Derived.Deep.Cut
namespace Go.Proofs.YtcogdfgmmpfkkaaGreatDoor
open Go.RowKit
attribute [local go_sem] Oper.semAt_some

/-! ## The document's Right, Path, Text -/
/-- How great a target is. -/
structure FewT (t : TgL) : Prop where
  parts : t.1.length ≤ 1000
  pairs : t.2.length ≤ 1000
  part : ∀ x ∈ t.1, x.length ≤ 1000
  pair : ∀ q ∈ t.2, q.1.length ≤ 1000 ∧ q.2.length ≤ 1000
theorem box_tg (w : World) (A1 A2 : Option Addr) (n1 c1 n2 c2 : Nat) : Has (w.alloc (.cells #[.slice A1 n1 c1, .slice A2 n2 c2] 26)) w.heap.size 26 #[.slice A1 n1 c1, .slice A2 n2 c2] := Has.new w _ _
set_option maxRecDepth 100000 in
set_option maxHeartbeats 4000000 in
theorem refRight_any (A1 A2 : Option Addr) (c1 c2 : Nat) (t : TgL) (w : World) (ht : FewT t) (h1 : Txs w A1 t.1) : Calls Tryz.prog 17 #[.agg #[.slice A1 t.1.length c1, .slice A2 t.2.length c2]] w fun e w' => e = .returned (.bool (rightTg t)) ∧ Below w.heap.size w w' := by
  obtain ⟨p, qs⟩ := t
  obtain ⟨hp, hq, hpl, _⟩ := ht
  simp only at *
  have hk := box_tg w A1 A2 p.length c1 qs.length c2
  have hal := Lib.hid ((Below.refl w.heap.size w).alloc (Nat.le_refl _) (.cells #[.slice A1 p.length c1, .slice A2 qs.length c2] 26))
  obtain ⟨w1, hw1⟩ : ∃ X, w.alloc (.cells #[.slice A1 p.length c1, .slice A2 qs.length c2] 26) = X := ⟨_, rfl⟩
  rw [hw1] at hk hal
  have hw1' := Lib.hid hw1
  have hx1 := Lib.hid (h1.below hal.out)
  have k0 : w1.cell? ⟨w.heap.size, 0, none⟩ = some (.slice A1 p.length c1) := hk.cell 0
  have hpl' := Lib.hid hpl
  clear hw1 h1 hk hpl
  go_enter Tryz.func17, Tryz.ntmps17
  go_upto_region 1 with (fail)
  rw [hw1'.out]
  go_wp2
  go_loopw [3] (fun x W => ∃ i : Nat, i ≤ p.length ∧ x = .int .i64 (i : Int) ∧ p.all partB = (p.drop i).all partB ∧ W = w1) (fun x _ => p.length - (intOf x).toNat)
  case atStart => exact ⟨0, Nat.zero_le _, rfl, by rw [List.drop_zero], rfl⟩
  case round =>
    obtain ⟨i, hil, rfl, hat, hW⟩ := hrel
    obtain rfl := hW
    by_cases hlt : i < p.length
    · have hltI : (i : Int) < (p.length : Int) := by omega
      obtain ⟨b, o, hA, _, hc⟩ := hx1.out (by omega)
      subst hA
      have ck := hc i _ (List.getElem?_eq_getElem hlt)
      have hyl := hpl'.out _ (List.getElem_mem hlt)
      rw [List.drop_eq_getElem_cons hlt, List.all_cons] at hat
      clear hc
      generalize p[i] = y at *
      have hpt := Lib.hid (fun W => refPart_any y W (by omega))
      cases hpb : partB y with
      | false =>
        rw [hpb] at hpt hat
        have hat' := Lib.hid hat
        clear hat hpb
        go_wp2_with (go_at_call 29; (with_reducible refine Calls.mono (hpt.out _) ?_); rintro e w9 ⟨rfl, hw9⟩; obtain rfl := hw9.symm)
        go_ret
        exact ⟨ret_bool (by unfold rightTg; rw [hat'.out]; simp), hal.out⟩
      | true =>
        rw [hpb, Bool.true_and] at hat
        rw [hpb] at hpt
        have hat' := Lib.hid hat
        clear hat hpb
        go_wp2_with (go_at_call 29; (with_reducible refine Calls.mono (hpt.out _) ?_); rintro e w9 ⟨rfl, hw9⟩; obtain rfl := hw9.symm)
        exact ⟨⟨i + 1, by omega, by go_num, hat'.out, trivial⟩, by simp [intOf]; omega⟩
    · obtain rfl : i = p.length := by omega
      rw [List.drop_length] at hat
      have hat' := Lib.hid hat
      clear hat
      rcases Nat.eq_zero_or_pos p.length with h0 | h0
      · have h0I : ¬ (0 : Int) < (p.length : Int) := by omega
        go_wp2
        go_ret
        exact ⟨ret_bool (by unfold rightTg; rw [List.eq_nil_of_length_eq_zero h0]; rfl), hal.out⟩
      · have h0I : (0 : Int) < (p.length : Int) := by omega
        go_wp2
        go_ret
        exact ⟨ret_bool (by unfold rightTg; rw [hat'.out]; have : p ≠ [] := List.length_pos_iff.1 h0; simp [this]), hal.out⟩
/-- The path as it is. -/
def pathP (p : List (List UInt8)) : List UInt8 := p.flatMap fun x => 47 :: x
theorem pathP_snoc (p : List (List UInt8)) (x : List UInt8) : pathP (p ++ [x]) = pathP p ++ 47 :: x := by unfold pathP; simp
theorem pathTx_snoc (p : List (List UInt8)) (x : List UInt8) : pathTx (p ++ [x]) = pathTx p ++ 47 :: encL x := by unfold pathTx; simp
theorem flat_len {α : Type} (f : α → List UInt8) (k : Nat) : ∀ l : List α, (∀ x ∈ l, (f x).length ≤ k) → (l.flatMap f).length ≤ k * l.length
  | [], _ => by simp
  | x :: r, h => by
    have h1 := flat_len f k r (fun y hy => h y (List.mem_cons_of_mem _ hy))
    have h2 := h x List.mem_cons_self
    rw [List.flatMap_cons, List.length_append, List.length_cons, Nat.mul_succ]
    omega
theorem cat2 (l x : List UInt8) (c : UInt8) : (⟨l.toArray⟩ : ByteArray) ++ ⟨#[c]⟩ ++ ⟨x.toArray⟩ = ⟨(l ++ c :: x).toArray⟩ := by
  refine (show _ = _ from ?_ : (⟨l.toArray⟩ : ByteArray) ++ ⟨[c].toArray⟩ ++ ⟨x.toArray⟩ = _)
  rw [app_str, app_str]
  simp
set_option maxRecDepth 100000 in
set_option maxHeartbeats 4000000 in
theorem refPath_any (A1 A2 : Option Addr) (c1 c2 : Nat) (t : TgL) (w : World) (ht : FewT t) (h1 : Txs w A1 t.1) : Calls Tryz.prog 20 #[.agg #[.slice A1 t.1.length c1, .slice A2 t.2.length c2]] w (StrR (pathP t.1) w) := by
  unfold StrR
  obtain ⟨p, qs⟩ := t
  obtain ⟨hp, hq, hpl, _⟩ := ht
  simp only at *
  have hk := box_tg w A1 A2 p.length c1 qs.length c2
  have hal := Lib.hid ((Below.refl w.heap.size w).alloc (Nat.le_refl _) (.cells #[.slice A1 p.length c1, .slice A2 qs.length c2] 26))
  obtain ⟨w1, hw1⟩ : ∃ X, w.alloc (.cells #[.slice A1 p.length c1, .slice A2 qs.length c2] 26) = X := ⟨_, rfl⟩
  rw [hw1] at hk hal
  have hw1' := Lib.hid hw1
  have hx1 := Lib.hid (h1.below hal.out)
  have k0 : w1.cell? ⟨w.heap.size, 0, none⟩ = some (.slice A1 p.length c1) := hk.cell 0
  have hpl' := Lib.hid hpl
  clear hw1 h1 hk hpl
  go_enter Tryz.func20, Tryz.ntmps20
  go_upto_region 1 with (fail)
  rw [hw1'.out]
  go_wp2
  go_loopw [3, 4] (fun v x W => ∃ i : Nat, i ≤ p.length ∧ x = .int .i64 (i : Int) ∧ v = .string ⟨(pathP (p.take i)).toArray⟩ ∧ W = w1) (fun _ x _ => p.length - (intOf x).toNat)
  case atStart => exact ⟨0, Nat.zero_le _, rfl, rfl, rfl⟩
  case round =>
    obtain ⟨i, hil, rfl, rfl, hW⟩ := hrel
    obtain rfl := hW
    by_cases hlt : i < p.length
    · have hltI : (i : Int) < (p.length : Int) := by omega
      obtain ⟨b, o, hA, _, hc⟩ := hx1.out (by omega)
      subst hA
      have ck := hc i _ (List.getElem?_eq_getElem hlt)
      have hyl := hpl'.out _ (List.getElem_mem hlt)
      have hen := Lib.hid (show pathP (p.take (i + 1)) = pathP (p.take i) ++ 47 :: p[i] by rw [take_next p hlt, pathP_snoc])
      have hel := flat_len (fun x => 47 :: x) 1001 (p.take i) (fun x hx => by have := hpl'.out x (List.mem_of_mem_take hx); simp; omega)
      rw [List.length_take] at hel
      have hel : (pathP (p.take i)).length ≤ 1001000 := by unfold pathP; omega
      clear hc
      generalize p[i] = y at *
      generalize pathP (p.take i) = el at *
      go_wp2
      exact ⟨⟨i + 1, by omega, by go_num, by rw [hen.out, cat2], trivial⟩, by simp [intOf]; omega⟩
    · obtain rfl : i = p.length := by omega
      rw [List.take_length] at *
      go_wp2
      go_ret
      exact ⟨rfl, hal.out⟩
end Go.Proofs.YtcogdfgmmpfkkaaGreatDoor
