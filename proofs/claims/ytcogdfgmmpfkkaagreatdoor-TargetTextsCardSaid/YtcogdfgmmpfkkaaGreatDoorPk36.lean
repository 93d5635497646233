import Derived.Test.YtcogdfgmmpfkkaaGreatDoorPk35
import Derived.Shelf.Strings.BuilderK
import Derived.Shelf.Strings.OnBuilder
namespace Go.Proofs.YtcogdfgmmpfkkaaGreatDoor
open Go.RowKit Go.Shelf
attribute [local go_sem] Oper.semAt_some

/-! ## A builder -/
def BuF (B b : Nat) (l : List UInt8) (w : World) : Prop := Lib.IsBuilderF 66 5 B b (Lib.byteCells l) w
theorem strCells_list (s : List UInt8) : Lib.strCells ⟨s.toArray⟩ = Lib.byteCells s := by simp [Lib.strCells, Lib.byteCells]
theorem byteCells_append (a b : List UInt8) : Lib.byteCells (a ++ b) = Lib.byteCells a ++ Lib.byteCells b := by simp [Lib.byteCells]
theorem byteCells_len (a : List UInt8) : (Lib.byteCells a).length = a.length := by simp [Lib.byteCells]
theorem bu_write (B b : Nat) (l s : List UInt8) (w : World) (h : BuF B b l w) (hl : l.length + s.length ≤ 1000000000) (hB : B ≤ w.heap.size) :
    Calls Tryz.prog 39 #[.pointer (some ⟨b, 0, none⟩), .string ⟨s.toArray⟩] w fun e w' => e = .returned (.tuple #[.int .i64 (s.length : Int), .nilIface]) ∧ BuF B b (l ++ s) w' ∧ Below B w w' ∧ Lib.OthersKept 5 (some b) w w' := by
  refine (Any.Builder_WriteString_k (ρ := Tryz.lays158_ren) { Tryz.lays158 with } Tryz.Builder_Extra_158 B b (Lib.byteCells l) ⟨s.toArray⟩ w h (by rw [byteCells_len]; show l.length + s.length ≤ _; omega) hB).mono ?_
  rintro e w' ⟨rfl, h1, h2, h3⟩
  refine ⟨rfl, ?_, h2, h3⟩
  unfold BuF
  rw [byteCells_append, ← strCells_list s]
  exact .inr h1
theorem bu_string (B b : Nat) (l : List UInt8) (w : World) (h : BuF B b l w) (hB : B ≤ w.heap.size) :
    Calls Tryz.prog 40 #[.pointer (some ⟨b, 0, none⟩)] w fun e w' => e = .returned (.string ⟨l.toArray⟩) ∧ Below B w w' :=
  (Any.Builder_String_any_k (ρ := Tryz.lays158_ren) { Tryz.lays158 with } Tryz.Builder_Extra_158 B b l w h hB).mono fun e w' ⟨h1, _, h3, _⟩ => ⟨h1, h3⟩
theorem bu_new (w : World) : BuF w.heap.size w.heap.size [] (w.alloc (.cells #[.pointer none, .slice none 0 0] 66)) :=
  .inl ⟨Nat.le_refl _, .slice none 0 0, heap_alloc_new w _, World.ownsRowF_of (World.ownsRow_nil _ _ _ _), by simp [Value.ownBlock]⟩
/-! ## Path -/
theorem pathP_len : ∀ (p : List (List UInt8)), (∀ x ∈ p, x.length ≤ 600000) → (pathP p).length ≤ 600001 * p.length
  | [], _ => Nat.le_refl _
  | x :: r, h => by
    have ih := pathP_len r (fun y hy => h y (List.mem_cons_of_mem _ hy))
    have := h x List.mem_cons_self
    show (47 :: x ++ pathP r).length ≤ _
    rw [List.length_append, List.length_cons, List.length_cons]
    omega
set_option maxRecDepth 100000 in
set_option maxHeartbeats 4000000 in
theorem pathT_any (A1 A2 : Option Addr) (n2 c1 c2 : Nat) (p : List (List UInt8)) (w : World) (hl : p.length ≤ 1000) (hpl : ∀ x ∈ p, x.length ≤ 600000) (hx : Txs w A1 p) :
    Calls Tryz.prog 19 #[.agg #[.slice A1 p.length c1, .slice A2 n2 c2]] w (StrR (pathP p) w) := by
  obtain ⟨n, hn⟩ : ∃ n, w.heap.size = n := ⟨_, rfl⟩
  obtain ⟨w1, h1⟩ : ∃ w1, w.alloc (.cells #[.slice A1 p.length c1, .slice A2 n2 c2] 26) = w1 := ⟨_, rfl⟩
  have hB1 : Below w.heap.size w w1 := by rw [← h1]; exact (Below.refl _ _).alloc (Nat.le_refl _) _
  have z0 : Has w1 n 26 #[.slice A1 p.length c1, .slice A2 n2 c2] := by rw [← h1, ← hn]; exact Has.new _ _ _
  have hz1 : w1.heap.size = n + 1 := by rw [← h1, ← hn]; simp
  have hb1 := bu_new w1
  have hB2 := (Below.refl w1.heap.size w1).alloc (Nat.le_refl _) (.cells #[.pointer none, .slice none 0 0] 66)
  have z0b := z0.alloc (.cells #[.pointer none, .slice none 0 0] 66)
  obtain ⟨w2, h2⟩ : ∃ w2, w1.alloc (.cells #[.pointer none, .slice none 0 0] 66) = w2 := ⟨_, rfl⟩
  rw [h2] at hb1 hB2 z0b
  rw [hz1] at hb1
  have d0 := z0b.cell 0
  have hx1 := Lib.hid (hx.below hB1)
  have hB1' := Lib.hid hB1
  have hB2' := Lib.hid hB2
  have hb1' := Lib.hid hb1
  have hpl' := Lib.hid hpl
  have hli : (p.length : Int) ≤ 1000 := by omega
  clear hB1 z0 hb1 hB2 z0b hx hpl
  unfold StrR
  go_enter Tryz.func19, Tryz.ntmps19
  go_wp2
  go_loopw [5, 9] (fun _ x W => ∃ j : Nat, j ≤ p.length ∧ x = .int .i64 (j : Int) ∧ BuF (n + 1) (n + 1) (pathP (p.take j)) W ∧ Below w1.heap.size w1 W) (fun _ x _ => p.length - (intOf x).toNat)
  case atStart => exact ⟨0, Nat.zero_le _, rfl, hb1'.out, hB2'.out⟩
  case round =>
    obtain ⟨j, hj, rfl, hbu, hb⟩ := hrel
    have hb' := Lib.hid hb
    have hz3 := Lib.hid hb.size
    have hbu' := Lib.hid hbu
    clear hbu hb
    by_cases hlt : j < p.length
    · have hltI : (j : Int) < (p.length : Int) := by omega
      obtain ⟨b, o, rfl, hbl, hcs⟩ := (hx1.out.below hb'.out) (by omega)
      obtain ⟨x, hxj⟩ : ∃ x, p[j] = x := ⟨_, rfl⟩
      have c0 := hcs j x (by rw [List.getElem?_eq_getElem hlt, hxj])
      have hxl := hpl'.out x (by rw [← hxj]; exact List.getElem_mem hlt)
      have hen := Lib.hid (show pathP (p.take (j + 1)) = pathP (p.take j) ++ [47] ++ x by rw [take_next p hlt, pathP_snoc, hxj]; simp)
      have hel := pathP_len (p.take j) (fun y hy => hpl'.out y (List.mem_of_mem_take hy))
      rw [List.length_take] at hel
      have hel : (pathP (p.take j)).length ≤ 600001000 := by
        have : min j p.length ≤ 1000 := by omega
        calc _ ≤ 600001 * min j p.length := hel
          _ ≤ 600001 * 1000 := Nat.mul_le_mul_left _ this
          _ = _ := rfl
      clear hcs hxj
      generalize pathP (p.take j) = el at *
      have w1c := Lib.hid (bu_write (n + 1) (n + 1) el [47] wr hbu'.out (by simp; omega) (by have := hz3.out; omega))
      have w2c := Lib.hid (fun W (hW : BuF (n + 1) (n + 1) (el ++ [47]) W) (hz : n + 1 ≤ W.heap.size) => bu_write (n + 1) (n + 1) (el ++ [47]) x W hW (by simp; omega) hz)
      go_wp2_with (first
        | (go_at_call 39; (with_reducible refine Calls.mono w1c.out ?_); rintro e w4 ⟨rfl, hb4, hB4, hk4⟩; have hB4' := Lib.hid hB4; have hb4' := Lib.hid hb4; have hk4' := Lib.hid hk4; have hz4 := Lib.hid hB4.size; clear hb4 hB4 hk4)
        | (go_at_call 39; (with_reducible refine Calls.mono (w2c.out _ hb4'.out (by have := hz3.out; have := hz4.out; omega)) ?_); rintro e w5 ⟨rfl, hb5, hB5, hk5⟩; have hB5' := Lib.hid hB5; have hb5' := Lib.hid hb5; clear hb5 hB5 hk5))
      have hb0 := hb'.out
      rw [hz1] at hb0
      exact ⟨⟨j + 1, by omega, by go_num, by rw [hen.out]; exact hb5'.out, by rw [hz1]; exact (hb0.trans hB4'.out).trans hB5'.out⟩, by simp [intOf]; omega⟩
    · obtain rfl : j = p.length := by omega
      have hst := Lib.hid (bu_string (n + 1) (n + 1) (pathP p) wr (by have := hbu'.out; rwa [List.take_length] at this) (by have := hz3.out; omega))
      go_wp2_with (go_at_call 40; (with_reducible refine Calls.mono hst.out ?_); rintro e w4 ⟨rfl, hB4⟩; have hB4' := Lib.hid hB4; clear hB4)
      go_ret
      have hb0 := hb'.out
      rw [hz1] at hb0
      exact ⟨rfl, hB1'.out.trans ((hb0.trans hB4'.out).mono (by omega))⟩
end Go.Proofs.YtcogdfgmmpfkkaaGreatDoor
