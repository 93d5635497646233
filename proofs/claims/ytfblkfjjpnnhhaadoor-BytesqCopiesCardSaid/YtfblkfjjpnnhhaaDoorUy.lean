import Derived.Test.YtfblkfjjpnnhhaaDoorUx
namespace Go.Proofs.YtfblkfjjpnnhhaaDoor
open Go.RowKit

/-! ## Pushes, fitting or not -/
def Pushes (l y : List UInt8) (room : Nat) (l' : List UInt8) (no : Int) : Prop := (l.length + y.length ≤ room ∧ l' = l ++ y ∧ no = 0) ∨ (room < l.length + y.length ∧ l' = l ∧ no = 120)
theorem pushes_is (l y : List UInt8) (room : Nat) : ∃ l' no, Pushes l y room l' no := by
  by_cases h : l.length + y.length ≤ room
  · exact ⟨_, _, .inl ⟨h, rfl, rfl⟩⟩
  · exact ⟨_, _, .inr ⟨by omega, rfl, rfl⟩⟩
theorem refPush_uni {l y l' : List UInt8} {room : Nat} {no : Int} (hh : Pushes l y room l' no) (A : Option Addr) (c : Nat) (B : Option Addr) (d m : Nat) (S : Nat → Prop) (w : World) (hm : m = y.length) (hp : Fine w S ⟨A, l, c⟩) (hq : Rd w S B y) (hS : ∀ k, S k → k < w.heap.size) (hl : l.length ≤ room) (hr : room ≤ 1048576) (hy : y.length ≤ 600) :
    Calls Tryd.prog 22 #[.agg #[.slice A l.length c, .int .i64 (room : Int)], .slice B m d] w fun e w' =>
      ∃ PA pc, e = .returned (.tuple #[.agg #[.slice PA l'.length pc, .int .i64 (room : Int)], .int .i64 no]) ∧ Fine w' (fun k => S k ∨ (w.heap.size ≤ k ∧ k < w'.heap.size)) ⟨PA, l', pc⟩ ∧ Below w.heap.size w w' := by
  subst hm
  rcases hh with ⟨h1, rfl, rfl⟩ | ⟨h1, rfl, rfl⟩
  · refine (refPush_ok A l c B y d S room w hp hq hS hr h1).mono ?_
    rintro e w' ⟨⟨PA, pl, pc⟩, he, hpl, hF, hB⟩
    simp only at hpl
    subst hpl
    exact ⟨PA, pc, he, hF.mono (fun k hk => .inr hk), hB⟩
  · refine (refPush_no A l' c B y d room w hl hr h1 hy).mono ?_
    rintro e w' ⟨he, hB⟩
    exact ⟨A, c, he, (hp.kept (Kept.below hB hS)).mono (fun k hk => .inl hk), hB⟩
theorem push_uni {l y l' : List UInt8} {room : Nat} {no : Int} (hh : Pushes l y room l' no) (g r np cp : Nat) (A : Option Addr) (S : Nat → Prop) (ps : List Part) (w : World) (h : Qu w g r room l) (hr : r < w.heap.size) (hp : Parts w S A ps) (hS : ∀ k, S k → k < w.heap.size ∧ k ≠ g ∧ k ≠ r) (hnp : np = ps.length) (hcap : np ≤ 140737488355328) (hy : cat ps = y) :
    Calls Tryd.prog 19 #[.pointer (some ⟨g, 0, none⟩), .slice A np cp] w fun e w' => e = .returned (.int .i64 no) ∧ ∃ r', Qu w' g r' room l' ∧ r' < w'.heap.size ∧ (r' = r ∨ w.heap.size ≤ r') ∧ Turn g r w w' := by
  have ht : tot ps = y.length := by rw [← hy, cat_length]
  rcases hh with ⟨h1, rfl, rfl⟩ | ⟨h1, rfl, rfl⟩
  · refine (push_ok g r room np cp l A S ps w h hp hS hnp hcap (by rw [ht]; exact h1)).mono ?_
    rintro e W' ⟨he, r1, hq, hr1, hT⟩
    rw [hy] at hq
    obtain ⟨r', hq', hl, hr'⟩ := hq.tidy hr1 (Nat.lt_of_lt_of_le hr hT.size)
    exact ⟨he, r', hq', hl, hr', hT⟩
  · refine (push_no g r room np cp l' A S ps w h hp (fun k hk => (hS k hk).1) hnp hcap (by rw [ht]; exact h1)).mono ?_
    rintro e W' ⟨he, hb⟩
    exact ⟨he, r, h.below hb, Nat.lt_of_lt_of_le hr hb.size, .inl rfl, turn_of_below hb⟩

theorem up_alloc {n : Nat} {W : World} (o : Obj) (h : n ≤ W.heap.size) : n ≤ (W.alloc o).heap.size := by rw [World.size_alloc]; omega
/-- The box of the document's answer, laid at some time or other. -/
structure Zb (c0 zb ge : Nat) (W : World) : Prop where
  has : Has W zb 32 #[.slice none 0 0, .int .i64 0]
  ne : zb ≠ ge
  ge : c0 ≤ zb
theorem Zb.grew {c0 zb g5 g6 : Nat} {W W' : World} (h : Zb c0 zb g5 W) (k : Grew g5 W W') (hg : g6 = g5 ∨ W.heap.size ≤ g6) : Zb c0 zb g6 W' :=
  ⟨(k.block _ h.has.lt h.ne).trans h.has, by have := h.has.lt; have := h.ne; omega, h.ge⟩
theorem Zb.below {c0 zb ge : Nat} {W W' : World} (h : Zb c0 zb ge W) (k : Below W.heap.size W W') : Zb c0 zb ge W' := ⟨h.has.below k h.has.lt, h.ne, h.ge⟩
theorem zb_new {c0 ge : Nat} (W : World) (h1 : ge < W.heap.size) (h2 : c0 ≤ W.heap.size) : Zb c0 W.heap.size ge (W.alloc (.cells #[.slice none 0 0, .int .i64 0] 32)) := ⟨Has.new _ _ _, by omega, h2⟩
theorem Two2.only {w W W' : World} {A : Option Addr} {n c room : Nat} {d : Deed} {g3 c3 g4 c4 z : Nat} (h : Two2 w A n c room d g3 c3 g4 c4 W) (k : Only z W W') (h3 : g3 ≠ z) (h4 : g4 ≠ z) (hz : w.heap.size + 3 ≤ z) : Two2 w A n c room d g3 c3 g4 c4 W' :=
  ⟨h.bx.only k hz, own_kept h.o3 (k.block _ h3), own_kept h.o4 (k.block _ h4), h.ne, h.ge3, h.ge4, h.b.trans (k.below (by omega))⟩
/-- What is asked where both have told of a push. -/
structure Told (X : Nat → Prop) (w : World) (A : Option Addr) (l l' : List UInt8) (c room g r : Nat) (d : Deed) (g3 c3 g4 c4 zb : Nat) (PA : Option Addr) (pc : Nat) (W : World) : Prop where
  two : Two2 w A l.length c room d g3 c3 g4 c4 W
  box : Has W zb 32 #[.slice PA l'.length pc, .int .i64 (room : Int)]
  ne3 : zb ≠ g3
  ne4 : zb ≠ g4
  ge : w.heap.size + 3 ≤ zb
  fine : Fine W (fun k => k < W.heap.size ∧ k ≠ g ∧ k ≠ r ∧ k ≠ w.heap.size + 1 + 1 ∧ k ≠ g3 ∧ ¬ X k) ⟨PA, l', pc⟩
theorem told_put {X : Nat → Prop} {w : World} (hX : ∀ k, X k → k < w.heap.size) {A : Option Addr} {l l' : List UInt8} {c room g r : Nat} {d : Deed} {g3 c3 g4 c4 zb c0 ge s6 : Nat} {PA : Option Addr} {pc : Nat} {W : World} (hT : Two2 w A l.length c room d g3 c3 g4 c4 W) (hz : Zb c0 zb ge W)
    (hF : Fine W (fun k => OffX X w g r k ∨ k = ge ∨ (s6 ≤ k ∧ k < W.heap.size)) ⟨PA, l', pc⟩) (h3 : g3 < c0) (h4 : g4 < c0) (hc : w.heap.size + 3 ≤ c0) (hs : zb < s6) (_hs2 : c0 ≤ s6) (hg : g < w.heap.size) (hr : r < w.heap.size) (hge : c0 ≤ ge ∧ ge < W.heap.size) :
    Told X w A l l' c room g r d g3 c3 g4 c4 zb PA pc ((W.setCell ⟨zb, 0, none⟩ (.slice PA l'.length pc)).setCell ⟨zb, 1, none⟩ (.int .i64 (room : Int))) := by
  have hge2 := hz.ge
  have hne := hz.ne
  have ho := (only_setCell zb 0 W (.slice PA l'.length pc)).trans (only_setCell zb 1 _ (.int .i64 (room : Int)))
  refine ⟨hT.only ho (by omega) (by omega) (by omega), (hz.has.put 0 _).put 1 _, by omega, by omega, by omega, (hF.kept (fun k hk => ho.block k ?_)).mono (fun k hk => ?_)⟩
  · rcases hk with hk | hk | hk
    · have := hk.1; omega
    · omega
    · omega
  · rw [ho.size]
    have hb := hT.b.size
    rcases hk with hk | hk | hk
    · have h1 := hk.1; have h2 := hk.2.1; have h3 := hk.2.2.1; have := hT.ge3; exact ⟨by omega, by omega, by omega, by omega, by omega, hk.2.2.2⟩
    · exact ⟨by omega, by omega, by omega, by omega, by omega, fun hx => by have := hX k hx; omega⟩
    · exact ⟨by omega, by omega, by omega, by omega, by omega, fun hx => by have := hX k hx; omega⟩
theorem told_new {X : Nat → Prop} {w : World} (hX : ∀ k, X k → k < w.heap.size) {A : Option Addr} {l l' : List UInt8} {c room g r : Nat} {d : Deed} {g3 c3 g4 c4 c0 ge s6 : Nat} {PA : Option Addr} {pc : Nat} {W : World} (hT : Two2 w A l.length c room d g3 c3 g4 c4 W)
    (hF : Fine W (fun k => OffX X w g r k ∨ k = ge ∨ (s6 ≤ k ∧ k < W.heap.size)) ⟨PA, l', pc⟩) (h3 : g3 < c0) (h4 : g4 < c0) (hc : w.heap.size + 3 ≤ c0) (hs : c0 ≤ s6) (hs2 : s6 ≤ W.heap.size) (hg : g < w.heap.size) (hr : r < w.heap.size) (hge : c0 ≤ ge ∧ ge < W.heap.size) :
    Told X w A l l' c room g r d g3 c3 g4 c4 W.heap.size PA pc (W.alloc (.cells #[.slice PA l'.length pc, .int .i64 (room : Int)] 32)) := by
  have hb := (Below.refl W.heap.size W).alloc (Nat.le_refl _) (.cells #[.slice PA l'.length pc, .int .i64 (room : Int)] 32)
  have hz : (W.alloc (.cells #[.slice PA l'.length pc, .int .i64 (room : Int)] 32)).heap.size = W.heap.size + 1 := by simp
  refine ⟨hT.below hb, Has.new _ _ _, by omega, by omega, by omega, (hF.kept (fun k hk => hb.block k ?_)).mono (fun k hk => ?_)⟩
  · rcases hk with hk | hk | hk
    · have := hk.1; omega
    · omega
    · omega
  · rw [hz]
    rcases hk with hk | hk | hk
    · have h1 := hk.1; have h2 := hk.2.1; have h3 := hk.2.2.1; have := hT.ge3; exact ⟨by omega, by omega, by omega, by omega, by omega, hk.2.2.2⟩
    · exact ⟨by omega, by omega, by omega, by omega, by omega, fun hx => by have := hX k hx; omega⟩
    · exact ⟨by omega, by omega, by omega, by omega, by omega, fun hx => by have := hX k hx; omega⟩
end Go.Proofs.YtfblkfjjpnnhhaaDoor
