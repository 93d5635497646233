import Derived.Test.YtfblkfjjpnnhhaaDoorD
import Derived.LoopTactic
namespace Go.Proofs.YtfblkfjjpnnhhaaDoor
open Go.RowKit

/-! ## New -/
/-- The bounds of rooms, as their initialiser lays them. -/
def Tab (W : World) : Prop := W.cell? ⟨0, 0, none⟩ = some (.int .i64 0) ∧ W.cell? ⟨0, 1, none⟩ = some (.int .i64 1048576)
theorem Tab.lt {W : World} (h : Tab W) : 0 < W.heap.size := World.block_lt_of_cell? W _ h.1
theorem Tab.below {W W' : World} {B : Nat} (h : Tab W) (hb : Below B W W') (hB : 0 < B) : Tab W' :=
  ⟨(hb.cell (p := ⟨0, 0, none⟩) hB).trans h.1, (hb.cell (p := ⟨0, 1, none⟩) hB).trans h.2⟩

def Made (room : Nat) (w : World) (e : Ending) (w' : World) : Prop :=
  e = .returned (.tuple #[.pointer (some ⟨w.heap.size, 0, none⟩), .int .i64 0]) ∧ Qu w' w.heap.size w.heap.size room [] ∧ Below w.heap.size w w' ∧ w'.heap.size = w.heap.size + 1
theorem new_ok (room : Nat) (w : World) (hT : Tab w) (hr : room ≤ 1048576) :
    Calls Tryd.prog 9 #[.int .i64 (room : Int)] w (Made room w) := by
  obtain ⟨t0, t1⟩ := hT
  have h0 : (0 : Int) ≤ (room : Int) := by omega
  have h1 : (room : Int) ≤ 1048576 := by omega
  go_enter Tryd.func9, Tryd.ntmps9
  go_wp2
  refine wp_scope_on 0 rfl ?_
  go_wp2
  rw [jump_ret]
  go_ret2
  refine ⟨rfl, ⟨none, [], 0, ⟨Has.new _ _ _, fun h => absurd h (by simp), fun h => absurd h (by simp), .inr rfl, Nat.le_refl _, by simp, hr⟩, rfl⟩, (Below.refl _ _).alloc (Nat.le_refl _) _, by simp⟩
theorem new_no (room : Int) (w : World) (hT : Tab w) (hr : room < 0 ∨ 1048576 < room) :
    Calls Tryd.prog 9 #[.int .i64 room] w fun e w' => e = .returned (.tuple #[.pointer none, .int .i64 2]) ∧ w = w' := by
  obtain ⟨t0, t1⟩ := hT
  rcases hr with h0 | h0
  · go_enter Tryd.func9, Tryd.ntmps9
    go_wp2
    refine wp_scope_on 0 rfl ?_
    go_wp2
    go_step3
    refine ⟨rfl, ?_⟩
    go_wp2
    rw [Exit.noGoto_ret]
    go_ret2
    exact ⟨rfl, rfl⟩
  · have h1 : (0 : Int) ≤ room := by omega
    go_enter Tryd.func9, Tryd.ntmps9
    go_wp2
    refine wp_scope_on 0 rfl ?_
    go_wp2
    go_step3
    refine ⟨rfl, ?_⟩
    go_wp2
    rw [Exit.noGoto_ret]
    go_ret2
    exact ⟨rfl, rfl⟩
theorem num_any (k : Int) (w : World) : Calls Tryd.prog 10 #[.int .i64 k] w fun e w' => e = .returned (.int .i64 k) ∧ w = w' := by
  go_enter Tryd.func10, Tryd.ntmps10
  go_wp2
  go_ret
  exact ⟨rfl, rfl⟩

/-! ## Parts, together -/
structure Part where
  A : Option Addr
  l : List UInt8
  c : Nat
def Part.val (p : Part) : Value := .slice p.A p.l.length p.c
def tot (ps : List Part) : Nat := (ps.map (·.l.length)).sum
def cat (ps : List Part) : List UInt8 := ps.flatMap (·.l)
theorem cat_length (ps : List Part) : (cat ps).length = tot ps := by simp [cat, tot, List.length_flatMap]
theorem tot_snoc (ps : List Part) (p : Part) : tot (ps ++ [p]) = tot ps + p.l.length := by simp [tot]
theorem cat_snoc (ps : List Part) (p : Part) : cat (ps ++ [p]) = cat ps ++ p.l := by simp [cat]
/-- A slice of parts, in blocks of which S holds. -/
def Parts (W : World) (S : Nat → Prop) (A : Option Addr) (ps : List Part) : Prop :=
  (0 < ps.length → ∃ ad, A = some ad ∧ S ad.block ∧ ∀ i p, ps[i]? = some p → W.cell? (ad.add i) = some p.val) ∧ ∀ p ∈ ps, Rd W S p.A p.l ∧ p.l.length ≤ p.c ∧ (p.l.length ≤ 140737488355328 ∧ p.c ≤ 9223372036854775807)
theorem Parts.kept {W W' : World} {S : Nat → Prop} {A : Option Addr} {ps : List Part} (h : Parts W S A ps) (k : Kept S W W') : Parts W' S A ps :=
  ⟨fun hl => by
    obtain ⟨ad, e, hS, hc⟩ := h.1 hl
    exact ⟨ad, e, hS, fun i p hp => (World.cell?_of_block (k _ (by rw [add_block_]; exact hS))).trans (hc i p hp)⟩,
   fun p hp => ⟨(h.2 p hp).1.kept k, (h.2 p hp).2⟩⟩
theorem Parts.at_ {W : World} {S : Nat → Prop} {A : Option Addr} {ps : List Part} (h : Parts W S A ps) {i : Nat} (hi : i < ps.length) :
    ∃ ad, A = some ad ∧ W.cell? (ad.add i) = some (.slice ps[i].A ps[i].l.length ps[i].c) ∧ Rd W S ps[i].A ps[i].l ∧ ps[i].l.length ≤ ps[i].c ∧ (ps[i].l.length ≤ 140737488355328 ∧ ps[i].c ≤ 9223372036854775807) := by
  obtain ⟨ad, e, _, hc⟩ := h.1 (by omega)
  exact ⟨ad, e, hc i _ (List.getElem?_eq_getElem hi), h.2 _ (List.getElem_mem hi)⟩
theorem take_succ_ {α : Type} (l : List α) (k : Nat) (h : k < l.length) : l.take (k + 1) = l.take k ++ [l[k]] := List.take_succ_eq_append_getElem h

theorem together1_any (B s n c room : Nat) (A : Option Addr) (w : World) (hB : w.cell? ⟨B, 0, none⟩ = some (.int .i64 (room : Int))) (hr : room ≤ 1048576) (hs : s ≤ 1048577) (hn : n ≤ 140737488355328) :
    Calls Tryd.prog 37 #[.int .i64 (s : Int), .slice A n c, .pointer (some ⟨B, 0, none⟩)] w fun e w' => e = .returned (.int .i64 ((min (s + n) (room + 1) : Nat) : Int)) ∧ w = w' := by
  go_enter Tryd.func37, Tryd.ntmps37
  go_wp2
  all_goals
    go_ret
    exact ⟨ret_int (by omega), rfl⟩
set_option maxHeartbeats 400000 in
theorem fold_any (B room np cp : Nat) (A : Option Addr) (S : Nat → Prop) (ps : List Part) (w : World) (hB : w.cell? ⟨B, 0, none⟩ = some (.int .i64 (room : Int))) (hr : room ≤ 1048576) (hp : Parts w S A ps) (hnp : np = ps.length) (hcap : np ≤ 140737488355328) :
    Calls Tryd.prog 36 #[.func (.func 37) #[] #[.pointer (some ⟨B, 0, none⟩)], .int .i64 0, .slice A np cp] w fun e w' => e = .returned (.int .i64 ((min (tot ps) (room + 1) : Nat) : Int)) ∧ w = w' := by
  have hnp' := Lib.hid hnp
  have hp' := Lib.hid hp
  clear hp hnp
  go_enter Tryd.func36, Tryd.ntmps36
  go_wp2
  go_loop [7, 13] (fun t i => ∃ k : Nat, k ≤ np ∧ i = .int .i64 k ∧ t = .int .i64 ((min (tot (ps.take k)) (room + 1) : Nat) : Int)) (fun _ i => np - (intOf i).toNat)
  case atStart => exact ⟨0, Nat.zero_le _, rfl, by simp [tot]⟩
  case round =>
    obtain ⟨k, hk, rfl, rfl⟩ := hrel
    by_cases hlt : k < np
    · obtain ⟨ad, rfl, hcell, _, hcl, hcc⟩ := hp'.out.at_ (i := k) (by have := hnp'.out; omega)
      have hts := Lib.hid (take_succ_ ps k (by have := hnp'.out; omega))
      generalize hpk : ps[k]'(by have := hnp'.out; omega) = p at hcell hcl hcc hts
      clear hpk
      generalize hM : min (tot (List.take k ps)) (room + 1) = M
      have hM1 : M ≤ 1048577 := by omega
      have hM' := Lib.hid hM
      clear hM
      go_wp2_with (go_at_call 37; refine (together1_any B M p.l.length p.c room p.A _ hB hr hM1 (by omega)).mono ?_; rintro e w' ⟨rfl, rfl⟩)
      go_round
      case rel => exact ⟨k + 1, by omega, by go_num, by rw [hts.out, tot_snoc]; have := hM'.out; congr 2; omega⟩
      case measure => simp [intOf]; omega
    · go_wp2
      go_ret
      exact ⟨ret_int (by rw [List.take_of_length_le (by have := hnp'.out; omega)]), rfl⟩
theorem together_any (room np cp : Nat) (A : Option Addr) (S : Nat → Prop) (ps : List Part) (w : World) (hr : room ≤ 1048576) (hp : Parts w S A ps) (hS : ∀ k, S k → k < w.heap.size) (hnp : np = ps.length) (hcap : np ≤ 140737488355328) :
    Calls Tryd.prog 31 #[.slice A np cp, .int .i64 (room : Int)] w fun e w' => e = .returned (.int .i64 ((min (tot ps) (room + 1) : Nat) : Int)) ∧ Below w.heap.size w w' := by
  have hp' := Lib.hid (hp.kept (W' := w.alloc (.cells #[.int .i64 (room : Int)] 3)) (fun k hk => Below.heap_alloc _ _ _ (hS k hk)))
  have hnp' := Lib.hid hnp
  clear hp hnp
  go_enter Tryd.func31, Tryd.ntmps31
  go_wp2_with (go_at_call 36; refine (fold_any w.heap.size room np cp A S ps _ (by simp) hr hp'.out hnp'.out hcap).mono ?_; rintro e w' ⟨rfl, rfl⟩)
  go_ret
  exact ⟨rfl, (Below.refl _ _).alloc (Nat.le_refl _) _⟩
end Go.Proofs.YtfblkfjjpnnhhaaDoor
