import Derived.Test.YtcogdfgmmpfkkaaGreatDoorPk39
namespace Go.Proofs.YtcogdfgmmpfkkaaGreatDoor
open Go.RowKit Go.Shelf
attribute [local go_sem] Oper.semAt_some

/-! ## Text -/
set_option maxRecDepth 100000 in
set_option maxHeartbeats 4000000 in
theorem text1_yes (A1 A2 : Option Addr) (c1 c2 : Nat) (t : TgL) (hr : rightTg t = true) (hf : FewT t) (b0 b2 e0 : Nat) (w W : World) (hT : TabT W) (h0 : Has W b0 26 #[.slice A1 t.1.length c1, .slice A2 t.2.length c2]) (hx : Txs W A1 t.1) (hq : Prs W A2 t.2) (h2 : Has W b2 9 #[.string ⟨#[]⟩]) (he : Has W e0 27 #[.int .i64 0]) (hw : Below w.heap.size w W) (hb2 : w.heap.size ≤ b2) (hne : b2 ≠ e0) :
    Calls Tryz.prog 37 #[.pointer (some ⟨b0, 0, none⟩), .pointer (some ⟨b2, 0, none⟩)] W fun r w' => r = .returned (.tuple #[]) ∧ (Has w' b2 9 #[.string ⟨(textTg t).toArray⟩] ∧ Below w.heap.size w w') ∧ Has w' e0 27 #[.int .i64 0] := by
  have hr := Lib.hid (written_yes A1 A2 c1 c2 t W hT hr hf hx hq)
  have c0 := h0.cell 0
  have c1 := h0.cell 1
  have h2' := Lib.hid h2
  have he' := Lib.hid he
  have hw' := Lib.hid hw
  clear h0 h2 he hT hx hq hf hw
  obtain ⟨l, hl⟩ : ∃ l, textTg t = l := ⟨_, rfl⟩
  rw [hl] at hr ⊢
  clear hl
  go_enter Tryz.func37, Tryz.ntmps37
  go_wp2_with (go_at_call 38; (with_reducible refine Calls.mono hr.out ?_); rintro e w3 ⟨rfl, hb3⟩; have h3 := (h2'.out.below hb3 h2'.out.lt); have k0 := h3.cell 0; have f0 := h3.free 0; have h3' := Lib.hid h3; have hb3' := Lib.hid hb3; clear h3 hb3)
  go_end0
  have he3 := he'.out.below hb3'.out he'.out.lt
  exact ⟨rfl, ⟨h3'.out.put 0 _, (hw'.out.trans (hb3'.out.mono hw'.out.size)).setCell (p := ⟨b2, 0, none⟩) hb2 _⟩, ((Grew.refl b2 w3).setT 0 _).has he3 (fun e => hne e.symm)⟩
theorem written_out (A1 A2 : Option Addr) (c1 c2 : Nat) (t : TgL) (w : World) (hr : rightTg t = false) (hf : FewT t) (hx : Txs w A1 t.1) :
    Calls Tryz.prog 38 #[.agg #[.slice A1 t.1.length c1, .slice A2 t.2.length c2]] w fun e w' => e = gaveE 2 ∧ Below w.heap.size w w' := by
  rcases Nat.eq_zero_or_pos t.1.length with h | h
  · exact written_none A1 A2 c1 c2 t w h hx
  · refine written_no A1 A2 c1 c2 t w h ?_ hf hx
    rw [right_split, decide_eq_true h, Bool.true_and] at hr
    exact hr
set_option maxRecDepth 100000 in
set_option maxHeartbeats 4000000 in
theorem text1_no (A1 A2 : Option Addr) (c1 c2 : Nat) (t : TgL) (hr : rightTg t = false) (hf : FewT t) (b0 b2 e0 : Nat) (w W : World) (h0 : Has W b0 26 #[.slice A1 t.1.length c1, .slice A2 t.2.length c2]) (hx : Txs W A1 t.1) (h2 : Has W b2 9 #[.string ⟨#[]⟩]) (he : Has W e0 27 #[.int .i64 0]) (hw : Below w.heap.size w W) :
    Calls Tryz.prog 37 #[.pointer (some ⟨b0, 0, none⟩), .pointer (some ⟨b2, 0, none⟩)] W fun r w' => r = gaveE 2 ∧ (Has w' b2 9 #[.string ⟨#[]⟩] ∧ Below w.heap.size w w') ∧ Has w' e0 27 #[.int .i64 0] := by
  have hr := Lib.hid (written_out A1 A2 c1 c2 t W hr hf hx)
  have c0 := h0.cell 0
  have c1 := h0.cell 1
  have h2' := Lib.hid h2
  have he' := Lib.hid he
  have hw' := Lib.hid hw
  clear h0 h2 he hx hf hw
  go_enter Tryz.func37, Tryz.ntmps37
  go_wp2_with (go_at_call 38; (with_reducible refine Calls.mono hr.out ?_); rintro e w3 ⟨rfl, hb3⟩; have hb3' := Lib.hid hb3; clear hb3)
  exact ⟨rfl, rfl, ⟨h2'.out.below hb3'.out h2'.out.lt, hw'.out.trans (hb3'.out.mono hw'.out.size)⟩, he'.out.below hb3'.out he'.out.lt⟩
set_option maxRecDepth 100000 in
set_option maxHeartbeats 8000000 in
theorem textT_any (A1 A2 : Option Addr) (c1 c2 : Nat) (t : TgL) (w : World) (hT : TabT w) (hf : FewT t) (hx : Txs w A1 t.1) (hq : Prs w A2 t.2) :
    Calls Tryz.prog 16 #[.agg #[.slice A1 t.1.length c1, .slice A2 t.2.length c2]] w (TextR t w) := by
  obtain ⟨n, hn⟩ : ∃ n, w.heap.size = n := ⟨_, rfl⟩
  have z0 : Has (w.alloc (.cells #[.slice A1 t.1.length c1, .slice A2 t.2.length c2] 26)) n 26 #[.slice A1 t.1.length c1, .slice A2 t.2.length c2] := by rw [← hn]; exact Has.new _ _ _
  obtain ⟨w1, h1⟩ : ∃ w1, w.alloc (.cells #[.slice A1 t.1.length c1, .slice A2 t.2.length c2] 26) = w1 := ⟨_, rfl⟩
  have hz1 : w1.heap.size = n + 1 := by rw [← h1, ← hn]; simp
  rw [h1] at z0
  have z1 : Has (w1.alloc (.cells #[.string ⟨#[]⟩] 9)) (n + 1) 9 #[.string ⟨#[]⟩] := by rw [← hz1]; exact Has.new _ _ _
  have z0b := z0.alloc (.cells #[.string ⟨#[]⟩] 9)
  obtain ⟨w3, h3⟩ : ∃ w3, w1.alloc (.cells #[.string ⟨#[]⟩] 9) = w3 := ⟨_, rfl⟩
  have hz3 : w3.heap.size = n + 1 + 1 := by rw [← h3, World.size_alloc, hz1]
  rw [h3] at z1 z0b
  have hB : Below w.heap.size w w3 := by
    rw [← h3, ← h1]
    exact ((Below.refl _ _).alloc (Nat.le_refl _) _).alloc (by simp) _
  have e4 : Has (w3.alloc (.cells #[.int .i64 0] 27)) w3.heap.size 27 #[.int .i64 0] := Has.new _ _ _
  have b4 : Below w.heap.size w (w3.alloc (.cells #[.int .i64 0] 27)) := hB.alloc (by omega) _
  have hT4 := hT.below b4
  have hx4 := hx.below b4
  have hq4 := hq.below b4
  have hen := enters_of (P := Tryz.prog) Tryz.func37 (by kernel_rfl) rfl
  have hmf : ∀ (fn : Fn) (first cap : Array Value) (w : World), (Instr.makeFunc fn first cap).run Tryz.prog w = .ok (.func fn first cap) w := fun _ _ _ _ => rfl
  obtain ⟨o, ho⟩ : ∃ o, rightTg t = o := ⟨_, rfl⟩
  unfold TextR textV
  rw [ho]
  cases o with
  | false =>
    simp only [Bool.false_eq_true, if_false]
    have ht := Lib.hid (tried_no 37 #[.pointer (some ⟨n, 0, none⟩), .pointer (some ⟨n + 1, 0, none⟩)] 2 w3 (fun X => Has X (n + 1) 9 #[.string ⟨#[]⟩] ∧ Below w.heap.size w X) hen
      (fun X u ⟨h1, h2⟩ => ⟨(((Grew.refl w3.heap.size X).setT 0 u).has h1 (by omega)).alloc _, (h2.setCell (p := ⟨w3.heap.size, 0, none⟩) (by show _ ≤ w3.heap.size; omega) u).alloc (by have := h2.size; simp [World.setCell]; omega) _⟩)
      (text1_no A1 A2 c1 c2 t ho hf n (n + 1) w3.heap.size w _ (z0b.alloc _) hx4 (z1.alloc _) e4 b4))
    clear z0 z0b z1 e4 b4 hT4 hT hB hen hx4 hq4 hx hq hf ho
    go_enter Tryz.func16, Tryz.ntmps16
    go_wp2_with (go_at_call 24; (with_reducible refine Calls.mono ht.out ?_); rintro e w5 ⟨rfl, hh5, hb5⟩; have c0 := hh5.cell 0; have hb5' := Lib.hid hb5; clear hh5 hb5)
    go_ret2
    exact ⟨rfl, hb5'.out⟩
  | true =>
    simp only [if_true]
    have ht := Lib.hid (tried_yes 37 #[.pointer (some ⟨n, 0, none⟩), .pointer (some ⟨n + 1, 0, none⟩)] w3 (fun X => Has X (n + 1) 9 #[.string ⟨(textTg t).toArray⟩] ∧ Below w.heap.size w X) hen
      (fun X u ⟨h1, h2⟩ => ⟨((Grew.refl w3.heap.size X).setT 0 u).has h1 (by omega), h2.setCell (p := ⟨w3.heap.size, 0, none⟩) (by show _ ≤ w3.heap.size; omega) u⟩)
      (text1_yes A1 A2 c1 c2 t ho hf n (n + 1) w3.heap.size w _ hT4 (z0b.alloc _) hx4 hq4 (z1.alloc _) e4 b4 (by omega) (by omega)))
    obtain ⟨l, hl⟩ : ∃ l, textTg t = l := ⟨_, rfl⟩
    rw [hl] at ht ⊢
    clear z0 z0b z1 e4 b4 hT4 hT hB hen hx4 hq4 hx hq hf ho hl
    go_enter Tryz.func16, Tryz.ntmps16
    go_wp2_with (go_at_call 24; (with_reducible refine Calls.mono ht.out ?_); rintro e w5 ⟨rfl, hh5, hb5⟩; have c0 := hh5.cell 0; have hb5' := Lib.hid hb5; clear hh5 hb5)
    go_ret2
    exact ⟨rfl, hb5'.out⟩
end Go.Proofs.YtcogdfgmmpfkkaaGreatDoor

namespace Go.Proofs.YtcogdfgmmpfkkaaGreatDoor
open Go.RowKit

/-! ## What the program's calls answer -/
theorem tgProg : TgProg := ⟨fun s w hT hs => parseT_any s w hT (by omega), fun plus s w hT hs => decodeT_any plus s w hT (by omega), fun s w hT hs => encodeT_any s w hT.1 (by omega),
  fun A1 A2 c1 c2 t w hT hf hx hq => textT_any A1 A2 c1 c2 t w hT hf hx hq,
  fun A1 A2 c1 c2 t w _ hf hx _ => pathT_any A1 A2 t.2.length c1 c2 t.1 w hf.parts (fun x h => by have := hf.part x h; omega) hx,
  fun A1 A2 B1 B2 c1 c2 d1 d2 t u w hT hf hg hx hq hy hr => sameT_any A1 A2 B1 B2 c1 c2 d1 d2 t u w hf hg hx hq hy hr,
  fun A1 A2 c1 c2 t key w _ hf _ _ hq => getT_any A1 A2 c1 c2 t key w hf hq,
  fun A1 A2 c1 c2 t w _ hf _ hq => pairsT_any A1 A2 c1 c2 t w hf hq⟩
end Go.Proofs.YtcogdfgmmpfkkaaGreatDoor
