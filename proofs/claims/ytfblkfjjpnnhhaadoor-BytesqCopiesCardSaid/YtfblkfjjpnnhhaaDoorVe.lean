import Derived.Test.YtfblkfjjpnnhhaaDoorP
namespace Go.Proofs.YtfblkfjjpnnhhaaDoor
open Go.RowKit

/-! ## Copies: too many calls, or no room -/
/-- The two calls behind, in their box. -/
def pairCells (d e : Deed) : Array Value := #[.int .i64 d.what, .int .i64 d.n, .slice d.a.A d.a.l.length d.a.c, .slice d.b.A d.b.l.length d.b.c, .int .i64 e.what, .int .i64 e.n, .slice e.a.A e.a.l.length e.a.c, .slice e.b.A e.b.l.length e.b.c]
theorem DeedOk.hold {W W' : World} {S : Nat → Prop} {d : Deed} (h : DeedOk W S d) (k : Kept S W W') : DeedOk W' S d := ⟨h.1.kept k, h.2.1.kept k, h.2.2⟩
theorem DeedOk.wider {W : World} {S S' : Nat → Prop} {d : Deed} (h : DeedOk W S d) (k : ∀ b, S b → S' b) : DeedOk W S' d := ⟨⟨h.1.1.mono k, h.1.2⟩, ⟨h.2.1.1.mono k, h.2.1.2⟩, h.2.2⟩
theorem Deeds.kept {W W' : World} {S : Nat → Prop} {A : Option Addr} {ds : List Deed} (h : Deeds W S A ds) (k : Kept S W W') : Deeds W' S A ds :=
  ⟨fun hl => by
    obtain ⟨b, o, e, hS, hc⟩ := h.1 hl
    refine ⟨b, o, e, hS, fun i d hd => ?_⟩
    obtain ⟨h0, h1, h2, h3⟩ := hc i d hd
    have hb := k b hS
    exact ⟨(World.cell?_of_block hb).trans h0, (World.cell?_of_block hb).trans h1, (World.cell?_of_block hb).trans h2, (World.cell?_of_block hb).trans h3⟩,
   fun d hd => ⟨(h.2 d hd).1.kept k, (h.2 d hd).2.1.kept k, (h.2 d hd).2.2⟩⟩
theorem Deeds.mono {W : World} {S S' : Nat → Prop} {A : Option Addr} {ds : List Deed} (h : Deeds W S A ds) (k : ∀ b, S b → S' b) : Deeds W S' A ds :=
  ⟨fun hl => by
    obtain ⟨b, o, e, hS, hc⟩ := h.1 hl
    exact ⟨b, o, e, k b hS, hc⟩, fun d hd => ⟨⟨(h.2 d hd).1.1.mono k, (h.2 d hd).1.2⟩, ⟨(h.2 d hd).2.1.1.mono k, (h.2 d hd).2.1.2⟩, (h.2 d hd).2.2⟩⟩
theorem deeds_two {W : World} {S : Nat → Prop} {b : Nat} {d e : Deed} {t : TypeId} (h : Has W b t (pairCells d e)) (hb : S b) (hd : DeedOk W S d) (he : DeedOk W S e) : Deeds W S (some ⟨b, 0, none⟩) [d, e] := by
  refine ⟨fun _ => ⟨b, 0, rfl, hb, fun i x hx => ?_⟩, fun x hx => ?_⟩
  · match i, hx with
    | 0, hx =>
      obtain rfl : d = x := by simpa using hx
      exact ⟨h.cell 0, h.cell 1, h.cell 2, h.cell 3⟩
    | 1, hx =>
      obtain rfl : e = x := by simpa using hx
      exact ⟨h.cell 4, h.cell 5, h.cell 6, h.cell 7⟩
    | i + 2, hx => simp at hx
  · simp only [List.mem_cons, List.not_mem_nil, or_false] at hx
    rcases hx with rfl | rfl
    · exact hd
    · exact he
theorem copies_works (room : Int) (A : Option Addr) (c : Nat) (ds : List Deed) (d e : Deed) (w : World) (hds : Deeds w (· < w.heap.size) A ds) (hl : ds.length ≤ 140737488355328) (hd : DeedOk w (· < w.heap.size) d) (he : DeedOk w (· < w.heap.size) e) (hT : Tab w) (hno : fewB 30 ds = false ∨ fewB 2 [d, e] = false ∨ room < 0 ∨ 1048576 < room) :
    Calls Tryd.prog 4 #[.int .i64 room, .slice A ds.length c, .agg (pairCells d e)] w fun e w' => e = .returned (.bool true) ∧ Below w.heap.size w w' := by
  have hB : Below w.heap.size w (w.alloc (.cells (pairCells d e) 39)) := (Below.refl _ _).alloc (Nat.le_refl _) _
  have hz : (w.alloc (.cells (pairCells d e) 39)).heap.size = w.heap.size + 1 := by simp
  have hk : Kept (· < w.heap.size) w (w.alloc (.cells (pairCells d e) 39)) := fun k hk => hB.block k hk
  have hm : ∀ k, k < w.heap.size → k < (w.alloc (.cells (pairCells d e) 39)).heap.size := fun k hk => by omega
  have hd2 := ((hd.hold hk).wider hm)
  have he2 := ((he.hold hk).wider hm)
  have hf := Lib.hid (few_any A _ ds ds.length c 30 _ ((hds.kept hk).mono hm) rfl hl (by omega))
  have hg := Lib.hid (fun q => few_any (some ⟨w.heap.size, 0, none⟩) _ [d, e] 2 2 2 ((w.alloc (.cells (pairCells d e) 39)).drewN q) (deeds_two (S := fun k => k < (w.alloc (.cells (pairCells d e) 39)).heap.size) ((Has.new _ _ _).drewN q) (by show _ < _; omega) (hd2.hold (fun _ _ => rfl)) (he2.hold (fun _ _ => rfl))) rfl (by omega) (by omega))
  have hB' := Lib.hid hB
  have hT' := Lib.hid hT
  have hno' := Lib.hid hno
  have hz' := Lib.hid hz
  generalize ds.length = n at hf
  clear hds hd he hT hno hB hz hk hm hd2 he2 hl
  generalize hb1 : fewB 30 ds = b1 at hf hno'
  generalize hb2 : fewB 2 [d, e] = b2 at hg hno'
  unfold pairCells at hf hg hB' hz' ⊢
  have hlt := Lib.hid (show w.heap.size < (w.alloc (.cells #[.int .i64 d.what, .int .i64 d.n, .slice d.a.A d.a.l.length d.a.c, .slice d.b.A d.b.l.length d.b.c, .int .i64 e.what, .int .i64 e.n, .slice e.a.A e.a.l.length e.a.c, .slice e.b.A e.b.l.length e.b.c] 39)).heap.size by have := hz'.out; omega)
  clear hb1 hb2 hz'
  go_enter Tryd.func4, Tryd.ntmps4
  go_wp2_with fail
  generalize (w.alloc (.cells #[.int .i64 d.what, .int .i64 d.n, .slice d.a.A d.a.l.length d.a.c, .slice d.b.A d.b.l.length d.b.c, .int .i64 e.what, .int .i64 e.n, .slice e.a.A e.a.l.length e.a.c, .slice e.b.A e.b.l.length e.b.c] 39)) = w1 at hf hg hB' hlt ⊢
  refine hf.out.mono ?_
  rintro e1 w2 ⟨rfl, q, rfl⟩
  have hwk : Hid (∀ k, Calls Tryd.prog 8 #[] (w1.drewN k) fun e w' => e = .returned (.bool true) ∧ Below (w1.drewN k).heap.size (w1.drewN k) w') := fun k => works_any _ (hT'.out.below (below_draws hB'.out _) hT'.out.lt)
  clear hf
  cases b1 with
  | false =>
    clear hno' hg
    go_wp2_with (go_at_call 8; refine (hwk.out _).mono ?_; rintro e w2 ⟨rfl, hb⟩)
    go_ret
    exact ⟨rfl, hB'.out.trans ((below_of_drewN hb).mono (by have := hlt.out; omega))⟩
  | true =>
    cases b2 with
    | false =>
      clear hno'
      go_wp2_with (first | (go_at_call 8; refine (hwk.out _).mono ?_; rintro e w2 ⟨rfl, hb⟩) | (go_at_call 7; refine (hg.out q).mono ?_; rintro e1 w3 ⟨rfl, q2, rfl⟩; rw [World.drewN_drewN]))
      go_ret
      exact ⟨rfl, hB'.out.trans ((below_of_drewN hb).mono (by have := hlt.out; omega))⟩
    | true =>
      have hno2 : room < 0 ∨ 1048576 < room := by simpa using hno'.out
      clear hno'
      by_cases h0 : room < 0
      · clear hno2
        go_wp2_with (first | (go_at_call 8; refine (hwk.out _).mono ?_; rintro e w2 ⟨rfl, hb⟩) | (go_at_call 7; refine (hg.out q).mono ?_; rintro e1 w3 ⟨rfl, q2, rfl⟩; rw [World.drewN_drewN]))
        go_ret
        exact ⟨rfl, hB'.out.trans ((below_of_drewN hb).mono (by have := hlt.out; omega))⟩
      · have h1 : 1048576 < room := by omega
        have h2 : 0 ≤ room := by omega
        clear hno2
        go_wp2_with (first | (go_at_call 8; refine (hwk.out _).mono ?_; rintro e w2 ⟨rfl, hb⟩) | (go_at_call 7; refine (hg.out q).mono ?_; rintro e1 w3 ⟨rfl, q2, rfl⟩; rw [World.drewN_drewN]))
        go_ret
        exact ⟨rfl, hB'.out.trans ((below_of_drewN hb).mono (by have := hlt.out; omega))⟩
end Go.Proofs.YtfblkfjjpnnhhaaDoor
