import Derived.Test.YtfblkfjjpnnhhaaDoorK
namespace Go.Proofs.YtfblkfjjpnnhhaaDoor
open Go.RowKit

/-! ## What is taken is what was pushed -/
theorem lit_none (w : World) (C : Array Value) (t : TypeId) : (w.alloc (.cells C t)).heap[w.heap.size]? = some (.cells C t (0, 0)) ∧ (w.alloc (.cells C t)).heap.size = w.heap.size + 1 ∧ Below w.heap.size w (w.alloc (.cells C t)) :=
  ⟨World.alloc_heap_new w _, by simp, (Below.refl _ _).alloc (Nat.le_refl _) _⟩
theorem Sound.below {W W' : World} {S : Nat → Prop} {p : Part} (h : Sound W S p) (hb : Below W.heap.size W W') (hS : ∀ k, S k → k < W.heap.size) : Sound W' S p := h.kept (fun k hk => hb.block k (hS k hk))
theorem parts_deed {W : World} {S : Nat → Prop} {a b : Part} (ha : Sound W S a) (hb : Sound W S b) (hS : ∀ k, S k → k < W.heap.size) :
    Parts (W.alloc (.cells #[a.val, b.val] 30)) (fun k => S k ∨ k = W.heap.size) (some ⟨W.heap.size, 0, none⟩) [a, b] := by
  obtain ⟨x0, xz, xb⟩ := lit_none W #[a.val, b.val] 30
  have ha' := ha.below xb hS
  have hb' := hb.below xb hS
  exact parts_two (cell_of_row _ _ 0 _ _ _ x0) (cell_of_row _ _ 1 _ _ _ x0) (.inr rfl) ⟨ha'.1.mono (fun _ h => .inl h), ha'.2.1, Nat.le_trans ha'.2.1 ha'.2.2, Nat.le_trans ha'.2.2 (by decide)⟩ ⟨hb'.1.mono (fun _ h => .inl h), hb'.2.1, Nat.le_trans hb'.2.1 hb'.2.2, Nat.le_trans hb'.2.2 (by decide)⟩
theorem push_deed {w W : World} {g r room : Nat} {bs : List UInt8} {S : Nat → Prop} {a b : Part} (h : Chain w g r room bs W) (ha : Sound W S a) (hb : Sound W S b) (hS : ∀ k, S k → k < W.heap.size ∧ k ≠ g ∧ k ≠ r) (hok : bs.length + (a.l.length + b.l.length) ≤ room) :
    Calls Tryd.prog 19 #[.pointer (some ⟨g, 0, none⟩), .slice (some ⟨W.heap.size, 0, none⟩) 2 2] (W.alloc (.cells #[a.val, b.val] 30)) (Pushed w g r room (bs ++ (a.l ++ b.l)) W) := by
  obtain ⟨x0, xz, xb⟩ := lit_none W #[a.val, b.val] 30
  have hg := h.q.lt
  have hr := h.lt
  have := push_chain (np := 2) (cp := 2) h xb (parts_deed ha hb (fun k hk => (hS k hk).1)) (fun k hk => by
    rcases hk with hk | hk
    · have := hS k hk
      omega
    · omega) rfl (by omega) (by simpa [tot] using hok)
  simpa [cat] using this
theorem push_deed_no {w W : World} {g r room : Nat} {bs : List UInt8} {S : Nat → Prop} {a b : Part} (h : Chain w g r room bs W) (ha : Sound W S a) (hb : Sound W S b) (hS : ∀ k, S k → k < W.heap.size) (hno : room < bs.length + (a.l.length + b.l.length)) :
    Calls Tryd.prog 19 #[.pointer (some ⟨g, 0, none⟩), .slice (some ⟨W.heap.size, 0, none⟩) 2 2] (W.alloc (.cells #[a.val, b.val] 30)) (fun e W' => e = .returned (.int .i64 120) ∧ Chain w g r room bs W' ∧ Below W.heap.size W W') := by
  obtain ⟨x0, xz, xb⟩ := lit_none W #[a.val, b.val] 30
  have h2 := h.below xb
  refine (push_no g r room 2 2 bs _ _ [a, b] _ h2.q (parts_deed ha hb hS) (fun k hk => by
    rcases hk with hk | hk
    · have := hS k hk
      omega
    · omega) rfl (by omega) (by simpa [tot] using hno)).mono ?_
  rintro e W' ⟨he, hb⟩
  exact ⟨he, h2.below hb, xb.trans (hb.mono xb.size)⟩
theorem Sound.text {W : World} {S : Nat → Prop} {p : Part} (h : Sound W S p) (q : Nat) : (convert 30 9 (.slice p.A p.l.length p.c)).run Tryd.prog (W.drewN q) = .ok (.string ⟨p.l.toArray⟩) (W.drewN q) :=
  (h.1.kept (W' := W.drewN q) (fun _ _ => rfl)).text 30 9 5 p.c Tryd.underlying30 Tryd.underlying5 Tryd.underlying9

theorem holds_works (room : Int) (A : Option Addr) (c : Nat) (ds : List Deed) (w : World) (hds : Deeds w (· < w.heap.size) A ds) (hl : ds.length ≤ 140737488355328) (hT : Tab w) (hno : fewB 60 ds = false ∨ room < 0 ∨ 1048576 < room) :
    Calls Tryd.prog 6 #[.int .i64 room, .slice A ds.length c] w fun e w' => e = .returned (.bool true) ∧ Below w.heap.size w w' := by
  have hf := Lib.hid (few_any A (· < w.heap.size) ds ds.length c 60 w hds rfl hl (by omega))
  have hT' := Lib.hid hT
  generalize ds.length = n at hf
  clear hds hT
  cases hb : fewB 60 ds with
  | false =>
    rw [hb] at hf
    clear hno hb
    go_enter Tryd.func6, Tryd.ntmps6
    go_wp2_with (first | (go_at_call 7; refine hf.out.mono ?_; rintro e w1 ⟨rfl, q, rfl⟩) | (go_at_call 8; refine (works_any _ (hT'.out.below (below_draws (Below.refl _ _) _) hT'.out.lt)).mono ?_; rintro e w2 ⟨rfl, hb⟩))
    go_ret
    exact ⟨rfl, below_of_drewN hb⟩
  | true =>
    rw [hb] at hf
    rw [hb] at hno
    have hno2 : room < 0 ∨ 1048576 < room := by simpa using hno
    clear hno hb
    by_cases h0 : room < 0
    · go_enter Tryd.func6, Tryd.ntmps6
      go_wp2_with (first | (go_at_call 7; refine hf.out.mono ?_; rintro e w1 ⟨rfl, q, rfl⟩) | (go_at_call 8; refine (works_any _ (hT'.out.below (below_draws (Below.refl _ _) _) hT'.out.lt)).mono ?_; rintro e w2 ⟨rfl, hb⟩))
      go_ret
      exact ⟨rfl, below_of_drewN hb⟩
    · have h1 : 1048576 < room := by omega
      go_enter Tryd.func6, Tryd.ntmps6
      go_wp2_with (first | (go_at_call 7; refine hf.out.mono ?_; rintro e w1 ⟨rfl, q, rfl⟩) | (go_at_call 8; refine (works_any _ (hT'.out.below (below_draws (Below.refl _ _) _) hT'.out.lt)).mono ?_; rintro e w2 ⟨rfl, hb⟩))
      go_ret
      exact ⟨rfl, below_of_drewN hb⟩
end Go.Proofs.YtfblkfjjpnnhhaaDoor
