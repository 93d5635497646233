import Derived.Test.YtcogdfgmmpfkkaaGreatDoorPk17
namespace Go.Proofs.YtcogdfgmmpfkkaaGreatDoor
open Go.RowKit Go.Shelf
attribute [local go_sem] Oper.semAt_some

/-! ## Parse, Decode -/
theorem Txs.apart {W : World} {A : Option Addr} {ls : List (List UInt8)} {k : Nat} {t : TypeId} {cs : Array Value} (h : Txs W A ls) (hk : Has W k t cs) (hcs : ∀ (j : Nat) x, cs[j]? ≠ some (.string x)) : 0 < ls.length → ∀ b o, A = some ⟨b, o, none⟩ → b ≠ k := by
  intro h0 b o e
  obtain ⟨b', o', e', _, hc⟩ := h h0
  rw [e] at e'
  injection e' with e'
  injection e' with e1 e2
  subst e1 e2
  rintro rfl
  have := hc 0 ls[0] (List.getElem?_eq_getElem h0)
  rw [hk.cell] at this
  exact hcs _ _ this
theorem Prs.apart {W : World} {A : Option Addr} {ls : List PairL} {k : Nat} {t : TypeId} {cs : Array Value} (h : Prs W A ls) (hk : Has W k t cs) (hcs : ∀ (j : Nat) x, cs[j]? ≠ some (.string x)) : 0 < ls.length → ∀ b o, A = some ⟨b, o, none⟩ → b ≠ k := by
  intro h0 b o e
  obtain ⟨b', o', e', _, hc⟩ := h h0
  rw [e] at e'
  injection e' with e'
  injection e' with e1 e2
  subst e1 e2
  rintro rfl
  have := (hc 0 ls[0] (List.getElem?_eq_getElem h0)).1
  rw [hk.cell] at this
  exact hcs _ _ this
theorem Txs.over {g : Nat} {w W : World} {A : Option Addr} {ls : List (List UInt8)} (h : Txs w A ls) (hb : Grew g w W) (hA : 0 < ls.length → ∀ b o, A = some ⟨b, o, none⟩ → b ≠ g) : Txs W A ls := fun h0 => by
  obtain ⟨b, o, rfl, hlt, hc⟩ := h h0
  have hne := hA h0 b o rfl
  exact ⟨b, o, rfl, Nat.lt_of_lt_of_le hlt hb.size, fun i x hx => (World.cell?_of_block (hb.block b hlt hne)).trans (hc i x hx)⟩
theorem Prs.over {g : Nat} {w W : World} {A : Option Addr} {ls : List PairL} (h : Prs w A ls) (hb : Grew g w W) (hA : 0 < ls.length → ∀ b o, A = some ⟨b, o, none⟩ → b ≠ g) : Prs W A ls := fun h0 => by
  obtain ⟨b, o, rfl, hlt, hc⟩ := h h0
  have hne := hA h0 b o rfl
  exact ⟨b, o, rfl, Nat.lt_of_lt_of_le hlt hb.size, fun i x hx => ⟨(World.cell?_of_block (hb.block b hlt hne)).trans (hc i x hx).1, (World.cell?_of_block (hb.block b hlt hne)).trans (hc i x hx).2⟩⟩
theorem no_int (z : Int) (j : Nat) (x : ByteArray) : (#[Value.int .i64 z] : Array Value)[j]? ≠ some (.string x) := by
  rcases j with _ | j <;> simp
theorem no_slices (a b : Option Addr) (n m c d j : Nat) (x : ByteArray) : (#[Value.slice a n c, Value.slice b m d] : Array Value)[j]? ≠ some (.string x) := by
  rcases j with _ | _ | j <;> simp
/-- A target in a box, its texts apart from another block. -/
def BoxT (b2 e0 : Nat) (t : TgL) (w X : World) : Prop := ∃ A1 c1 A2 c2, Has X b2 26 #[.slice A1 t.1.length c1, .slice A2 t.2.length c2] ∧ Txs X A1 t.1 ∧ Prs X A2 t.2 ∧ (0 < t.1.length → ∀ b o, A1 = some ⟨b, o, none⟩ → b ≠ e0) ∧ (0 < t.2.length → ∀ b o, A2 = some ⟨b, o, none⟩ → b ≠ e0) ∧ Below w.heap.size w X
theorem BoxT.set {b2 e0 : Nat} {t : TgL} {w X : World} (h : BoxT b2 e0 t w X) (hne : b2 ≠ e0) (hle : w.heap.size ≤ e0) (u : Value) : BoxT b2 e0 t w (X.setCell ⟨e0, 0, none⟩ u) := by
  obtain ⟨A1, c1, A2, c2, h1, h2, h3, h4, h5, h6⟩ := h
  have hG := (Grew.refl e0 X).setT 0 u
  exact ⟨A1, c1, A2, c2, hG.has h1 hne, h2.over hG h4, h3.over hG h5, h4, h5, h6.setCell (p := ⟨e0, 0, none⟩) hle u⟩
set_option maxRecDepth 100000 in
set_option maxHeartbeats 4000000 in
theorem parse1_yes (s : List UInt8) (t : TgL) (hp : parseTg s = some t) (hs : s.length ≤ 600000) (b0 b2 e0 : Nat) (w W : World) (hT : TabT W) (h0 : Has W b0 9 #[.string ⟨s.toArray⟩]) (h2 : Has W b2 26 #[.slice none 0 0, .slice none 0 0]) (he : Has W e0 27 #[.int .i64 0]) (hw : Below w.heap.size w W) (hb2 : w.heap.size ≤ b2) (hne : b2 ≠ e0) :
    Calls Tryz.prog 25 #[.pointer (some ⟨b0, 0, none⟩), .pointer (some ⟨b2, 0, none⟩)] W fun r w' => r = .returned (.tuple #[]) ∧ (BoxT b2 e0 t w w' ∧ Grew b2 W w') ∧ Has w' e0 27 #[.int .i64 0] := by
  have hr := Lib.hid (readT_any s W hT hs)
  rw [hp] at hr
  unfold ReadR at hr
  simp only at hr
  have c0 := h0.cell 0
  have h2' := Lib.hid h2
  have he' := Lib.hid he
  have hw' := Lib.hid hw
  clear h0 h2 he hT hp hw
  go_enter Tryz.func25, Tryz.ntmps25
  go_wp2_with (go_at_call 26; (with_reducible refine Calls.mono hr.out ?_); rintro e w3 ⟨⟨v, rfl, A1, c1, A2, c2, rfl, hx, hq⟩, hb3⟩; have h3 := (h2'.out.below hb3 h2'.out.lt); have k0 := h3.cell 0; have k1 := h3.cell 1; have f0 := h3.free 0; have f1 := h3.free 1; have h3' := Lib.hid h3; have hx' := Lib.hid hx; have hq' := Lib.hid hq; have hb3' := Lib.hid hb3; clear h3 hx hq hb3)
  go_end0
  have hG := ((Grew.refl b2 w3).setT 0 (.slice A1 t.1.length c1)).setT 1 (.slice A2 t.2.length c2)
  have he3 := he'.out.below hb3'.out he'.out.lt
  refine ⟨rfl, ⟨⟨A1, c1, A2, c2, (h3'.out.put 0 _).put 1 _, hx'.out.over hG (hx'.out.apart h3'.out (no_slices _ _ _ _ _ _)), hq'.out.over hG (hq'.out.apart h3'.out (no_slices _ _ _ _ _ _)), hx'.out.apart he3 (no_int 0), hq'.out.apart he3 (no_int 0), ?_⟩, (Grew.of_below hb3'.out).trans hG⟩, hG.has he3 (fun e => hne e.symm)⟩
  exact ((hw'.out.trans (hb3'.out.mono hw'.out.size)).setCell (p := ⟨b2, 0, none⟩) hb2 _).setCell (p := ⟨b2, 1, none⟩) hb2 _
set_option maxRecDepth 100000 in
set_option maxHeartbeats 4000000 in
theorem parse1_no (s : List UInt8) (hp : parseTg s = none) (hs : s.length ≤ 600000) (b0 b2 e0 : Nat) (w W : World) (hT : TabT W) (h0 : Has W b0 9 #[.string ⟨s.toArray⟩]) (h2 : Has W b2 26 #[.slice none 0 0, .slice none 0 0]) (he : Has W e0 27 #[.int .i64 0]) (hw : Below w.heap.size w W) :
    Calls Tryz.prog 25 #[.pointer (some ⟨b0, 0, none⟩), .pointer (some ⟨b2, 0, none⟩)] W fun r w' => r = gaveE 210 ∧ (Has w' b2 26 #[.slice none 0 0, .slice none 0 0] ∧ Below w.heap.size w w' ∧ Below W.heap.size W w') ∧ Has w' e0 27 #[.int .i64 0] := by
  have hr := Lib.hid (readT_any s W hT hs)
  rw [hp] at hr
  unfold ReadR at hr
  simp only at hr
  have c0 := h0.cell 0
  have h2' := Lib.hid h2
  have he' := Lib.hid he
  have hw' := Lib.hid hw
  clear h0 h2 he hT hp hw
  go_enter Tryz.func25, Tryz.ntmps25
  go_wp2_with (go_at_call 26; (with_reducible refine Calls.mono hr.out ?_); rintro e w3 ⟨rfl, hb3⟩; have hb3' := Lib.hid hb3; clear hb3)
  exact ⟨rfl, rfl, ⟨h2'.out.below hb3'.out h2'.out.lt, hw'.out.trans (hb3'.out.mono hw'.out.size), hb3'.out⟩, he'.out.below hb3'.out he'.out.lt⟩
end Go.Proofs.YtcogdfgmmpfkkaaGreatDoor

namespace Go.Proofs.YtcogdfgmmpfkkaaGreatDoor
open Go.RowKit Go.Shelf
attribute [local go_sem] Oper.semAt_some

/-! ## Parse -/
set_option maxRecDepth 100000 in
set_option maxHeartbeats 8000000 in
theorem parseT_any (s : List UInt8) (w : World) (hT : TabT w) (hs : s.length ≤ 600000) : Calls Tryz.prog 7 #[.string ⟨s.toArray⟩] w (ParseR (parseTg s) w) := by
  obtain ⟨n, hn⟩ : ∃ n, w.heap.size = n := ⟨_, rfl⟩
  have z0 : Has (w.alloc (.cells #[.string ⟨s.toArray⟩] 9)) n 9 #[.string ⟨s.toArray⟩] := by rw [← hn]; exact Has.new _ _ _
  obtain ⟨w1, h1⟩ : ∃ w1, w.alloc (.cells #[.string ⟨s.toArray⟩] 9) = w1 := ⟨_, rfl⟩
  have hz1 : w1.heap.size = n + 1 := by rw [← h1, ← hn]; simp
  rw [h1] at z0
  have z1 : Has (w1.alloc (.cells #[.slice none 0 0, .slice none 0 0] 26)) (n + 1) 26 #[.slice none 0 0, .slice none 0 0] := by rw [← hz1]; exact Has.new _ _ _
  have z0b := z0.alloc (.cells #[.slice none 0 0, .slice none 0 0] 26)
  obtain ⟨w2, h2⟩ : ∃ w2, w1.alloc (.cells #[.slice none 0 0, .slice none 0 0] 26) = w2 := ⟨_, rfl⟩
  have hz2 : w2.heap.size = n + 1 + 1 := by rw [← h2, World.size_alloc, hz1]
  rw [h2] at z1 z0b
  have z2 : Has (w2.alloc (.cells #[.slice none 0 0, .slice none 0 0] 26)) (n + 1 + 1) 26 #[.slice none 0 0, .slice none 0 0] := by rw [← hz2]; exact Has.new _ _ _
  have z0c := z0b.alloc (.cells #[.slice none 0 0, .slice none 0 0] 26)
  have z1c := z1.alloc (.cells #[.slice none 0 0, .slice none 0 0] 26)
  obtain ⟨w3, h3⟩ : ∃ w3, w2.alloc (.cells #[.slice none 0 0, .slice none 0 0] 26) = w3 := ⟨_, rfl⟩
  have hz3 : w3.heap.size = n + 1 + 1 + 1 := by rw [← h3, World.size_alloc, hz2]
  rw [h3] at z2 z0c z1c
  have hB : Below w.heap.size w w3 := by
    rw [← h3, ← h2, ← h1]
    exact (((Below.refl _ _).alloc (Nat.le_refl _) _).alloc (by simp) _).alloc (by simp; omega) _
  have e4 : Has (w3.alloc (.cells #[.int .i64 0] 27)) w3.heap.size 27 #[.int .i64 0] := Has.new _ _ _
  have b4 : Below w.heap.size w (w3.alloc (.cells #[.int .i64 0] 27)) := hB.alloc (by omega) _
  have hT4 := hT.below b4
  have hen := enters_of (P := Tryz.prog) Tryz.func25 (by kernel_rfl) rfl
  have hmf : ∀ (fn : Fn) (first cap : Array Value) (w : World), (Instr.makeFunc fn first cap).run Tryz.prog w = .ok (.func fn first cap) w := fun _ _ _ _ => rfl
  obtain ⟨o, ho⟩ : ∃ o, parseTg s = o := ⟨_, rfl⟩
  rw [ho]
  have z1' := Lib.hid z1c
  have hz3' := Lib.hid hz3
  have hB' := Lib.hid hB
  cases o with
  | none =>
    have ht := Lib.hid (tried_no 25 #[.pointer (some ⟨n, 0, none⟩), .pointer (some ⟨n + 1 + 1, 0, none⟩)] 210 w3 (fun X => (Has X (n + 1 + 1) 26 #[.slice none 0 0, .slice none 0 0] ∧ Has X (n + 1) 26 #[.slice none 0 0, .slice none 0 0]) ∧ Below w.heap.size w X) hen
      (fun X u ⟨⟨h1, h3⟩, h2⟩ => ⟨⟨(((Grew.refl w3.heap.size X).setT 0 u).has h1 (by omega)).alloc _, (((Grew.refl w3.heap.size X).setT 0 u).has h3 (by omega)).alloc _⟩, (h2.setCell (p := ⟨w3.heap.size, 0, none⟩) (by show _ ≤ w3.heap.size; omega) u).alloc (by have := h2.size; simp [World.setCell]; omega) _⟩)
      ((parse1_no s ho hs n (n + 1 + 1) w3.heap.size w _ hT4 (z0c.alloc _) (z2.alloc _) e4 b4).mono fun e w' ⟨h1, ⟨h2, h3, h4⟩, h5⟩ => ⟨h1, ⟨⟨h2, (z1c.alloc _).below h4 (z1c.alloc _).lt⟩, h3⟩, h5⟩))
    clear z0 z0b z0c z1 z1c z2 e4 b4 hT4 hT hB hen
    go_enter Tryz.func7, Tryz.ntmps7
    go_wp2_with (go_at_call 24; (with_reducible refine Calls.mono ht.out ?_); rintro e w5 ⟨rfl, ⟨hh5, hh6⟩, hb5⟩; have c0 := hh5.cell 0; have c1 := hh5.cell 1; have d0 := hh6.cell 0; have d1 := hh6.cell 1; have f0 := hh6.free 0; have f1 := hh6.free 1; have hb5' := Lib.hid hb5; have hh6' := Lib.hid hh6; clear hh5 hb5 hh6)
    have y0 : ∀ a b, ((w5.setCell ⟨n + 1, 0, none⟩ a).setCell ⟨n + 1, 1, none⟩ b).cell? ⟨n + 1, 0, none⟩ = some a := fun a b => ((hh6'.out.put 0 a).put 1 b).cell 0
    have y1 : ∀ a b, ((w5.setCell ⟨n + 1, 0, none⟩ a).setCell ⟨n + 1, 1, none⟩ b).cell? ⟨n + 1, 1, none⟩ = some b := fun a b => ((hh6'.out.put 0 a).put 1 b).cell 1
    refine bodyPost_ret (v := tgV0) (by simp only [results, Tryz.results7]; simp [go_sem, y0, y1]; rfl) rfl ⟨rfl, ?_⟩
    exact (hb5'.out.setCell (p := ⟨n + 1, 0, none⟩) (by show _ ≤ n + 1; omega) _).setCell (p := ⟨n + 1, 1, none⟩) (by show _ ≤ n + 1; omega) _
  | some t =>
    have ht := Lib.hid (tried_yes 25 #[.pointer (some ⟨n, 0, none⟩), .pointer (some ⟨n + 1 + 1, 0, none⟩)] w3 (fun X => BoxT (n + 1 + 1) w3.heap.size t w X ∧ Has X (n + 1) 26 #[.slice none 0 0, .slice none 0 0]) hen
      (fun X u ⟨h, h1⟩ => ⟨h.set (by omega) (by omega) u, ((Grew.refl w3.heap.size X).setT 0 u).has h1 (by omega)⟩)
      ((parse1_yes s t ho hs n (n + 1 + 1) w3.heap.size w _ hT4 (z0c.alloc _) (z2.alloc _) e4 b4 (by omega) (by omega)).mono fun e w' ⟨h1, ⟨h2, h3⟩, h4⟩ => ⟨h1, ⟨h2, h3.has (z1c.alloc _) (by omega)⟩, h4⟩))
    clear z0 z0b z0c z1 z1c z2 e4 b4 hT4 hT hB hen
    go_enter Tryz.func7, Tryz.ntmps7
    go_wp2_with (go_at_call 24; (with_reducible refine Calls.mono ht.out ?_); rintro e w5 ⟨rfl, ⟨A1, k1, A2, k2, hh5, hx, hq, -, -, hb5⟩, hh6⟩; have c0 := hh5.cell 0; have c1 := hh5.cell 1; have d0 := hh6.cell 0; have d1 := hh6.cell 1; have f0 := hh6.free 0; have f1 := hh6.free 1; have hb5' := Lib.hid hb5; have hh6' := Lib.hid hh6; have hx' := Lib.hid hx; have hq' := Lib.hid hq; clear hh5 hb5 hh6 hx hq)
    have y0 : ∀ a b, ((w5.setCell ⟨n + 1, 0, none⟩ a).setCell ⟨n + 1, 1, none⟩ b).cell? ⟨n + 1, 0, none⟩ = some a := fun a b => ((hh6'.out.put 0 a).put 1 b).cell 0
    have y1 : ∀ a b, ((w5.setCell ⟨n + 1, 0, none⟩ a).setCell ⟨n + 1, 1, none⟩ b).cell? ⟨n + 1, 1, none⟩ = some b := fun a b => ((hh6'.out.put 0 a).put 1 b).cell 1
    have hG := ((Grew.refl (n + 1) w5).setT 0 (.slice A1 t.1.length k1)).setT 1 (.slice A2 t.2.length k2)
    refine bodyPost_ret (v := .tuple #[.agg #[.slice A1 t.1.length k1, .slice A2 t.2.length k2], .int .i64 0]) (by simp only [results, Tryz.results7]; simp [go_sem, y0, y1]) rfl ?_
    refine ⟨⟨_, rfl, A1, k1, A2, k2, rfl, hx'.out.over hG (hx'.out.apart hh6'.out (no_slices _ _ _ _ _ _)), hq'.out.over hG (hq'.out.apart hh6'.out (no_slices _ _ _ _ _ _))⟩, ?_⟩
    exact (hb5'.out.setCell (p := ⟨n + 1, 0, none⟩) (by show _ ≤ n + 1; omega) _).setCell (p := ⟨n + 1, 1, none⟩) (by show _ ≤ n + 1; omega) _
end Go.Proofs.YtcogdfgmmpfkkaaGreatDoor

namespace Go.Proofs.YtcogdfgmmpfkkaaGreatDoor
open Go.RowKit Go.Shelf
attribute [local go_sem] Oper.semAt_some

/-! ## Decode -/
set_option maxRecDepth 100000 in
set_option maxHeartbeats 4000000 in
theorem decode1_yes (plus : Bool) (s l : List UInt8) (hp : decL plus s = some l) (hs : s.length ≤ 600000) (b0 b1 b2 e0 : Nat) (w W : World) (hT : TabT W) (h0 : Has W b0 9 #[.string ⟨s.toArray⟩]) (h1 : Has W b1 4 #[.bool plus]) (h2 : Has W b2 9 #[.string ⟨#[]⟩]) (he : Has W e0 27 #[.int .i64 0]) (hw : Below w.heap.size w W) (hb2 : w.heap.size ≤ b2) (hne : b2 ≠ e0) :
    Calls Tryz.prog 31 #[.pointer (some ⟨b0, 0, none⟩), .pointer (some ⟨b1, 0, none⟩), .pointer (some ⟨b2, 0, none⟩)] W fun r w' => r = .returned (.tuple #[]) ∧ (Has w' b2 9 #[.string ⟨l.toArray⟩] ∧ Below w.heap.size w w') ∧ Has w' e0 27 #[.int .i64 0] := by
  have hr := Lib.hid (decoded_any plus s W hT.1 hs)
  rw [hp] at hr
  unfold DecT at hr
  simp only at hr
  have c0 := h0.cell 0
  have c1 := h1.cell 0
  have h2' := Lib.hid h2
  have he' := Lib.hid he
  have hw' := Lib.hid hw
  clear h0 h1 h2 he hT hp hw
  go_enter Tryz.func31, Tryz.ntmps31
  go_wp2_with (go_at_call 32; (with_reducible refine Calls.mono hr.out ?_); rintro e w3 ⟨rfl, hb3⟩; have h3 := (h2'.out.below hb3 h2'.out.lt); have k0 := h3.cell 0; have f0 := h3.free 0; have h3' := Lib.hid h3; have hb3' := Lib.hid hb3; clear h3 hb3)
  go_end0
  have he3 := he'.out.below hb3'.out he'.out.lt
  exact ⟨rfl, ⟨h3'.out.put 0 _, (hw'.out.trans (hb3'.out.mono hw'.out.size)).setCell (p := ⟨b2, 0, none⟩) hb2 _⟩, ((Grew.refl b2 w3).setT 0 _).has he3 (fun e => hne e.symm)⟩
set_option maxRecDepth 100000 in
set_option maxHeartbeats 4000000 in
theorem decode1_no (plus : Bool) (s : List UInt8) (hp : decL plus s = none) (hs : s.length ≤ 600000) (b0 b1 b2 e0 : Nat) (w W : World) (hT : TabT W) (h0 : Has W b0 9 #[.string ⟨s.toArray⟩]) (h1 : Has W b1 4 #[.bool plus]) (h2 : Has W b2 9 #[.string ⟨#[]⟩]) (he : Has W e0 27 #[.int .i64 0]) (hw : Below w.heap.size w W) :
    Calls Tryz.prog 31 #[.pointer (some ⟨b0, 0, none⟩), .pointer (some ⟨b1, 0, none⟩), .pointer (some ⟨b2, 0, none⟩)] W fun r w' => r = gaveE 210 ∧ (Has w' b2 9 #[.string ⟨#[]⟩] ∧ Below w.heap.size w w') ∧ Has w' e0 27 #[.int .i64 0] := by
  have hr := Lib.hid (decoded_any plus s W hT.1 hs)
  rw [hp] at hr
  unfold DecT at hr
  simp only at hr
  have c0 := h0.cell 0
  have c1 := h1.cell 0
  have h2' := Lib.hid h2
  have he' := Lib.hid he
  have hw' := Lib.hid hw
  clear h0 h1 h2 he hT hp hw
  go_enter Tryz.func31, Tryz.ntmps31
  go_wp2_with (go_at_call 32; (with_reducible refine Calls.mono hr.out ?_); rintro e w3 ⟨rfl, hb3⟩; have hb3' := Lib.hid hb3; clear hb3)
  exact ⟨rfl, rfl, ⟨h2'.out.below hb3'.out h2'.out.lt, hw'.out.trans (hb3'.out.mono hw'.out.size)⟩, he'.out.below hb3'.out he'.out.lt⟩
set_option maxRecDepth 100000 in
set_option maxHeartbeats 8000000 in
theorem decodeT_any (plus : Bool) (s : List UInt8) (w : World) (hT : TabT w) (hs : s.length ≤ 600000) : Calls Tryz.prog 11 #[.string ⟨s.toArray⟩, .bool plus] w (DecR (decL plus s) w) := by
  obtain ⟨n, hn⟩ : ∃ n, w.heap.size = n := ⟨_, rfl⟩
  have z0 : Has (w.alloc (.cells #[.string ⟨s.toArray⟩] 9)) n 9 #[.string ⟨s.toArray⟩] := by rw [← hn]; exact Has.new _ _ _
  obtain ⟨w1, h1⟩ : ∃ w1, w.alloc (.cells #[.string ⟨s.toArray⟩] 9) = w1 := ⟨_, rfl⟩
  have hz1 : w1.heap.size = n + 1 := by rw [← h1, ← hn]; simp
  rw [h1] at z0
  have z1 : Has (w1.alloc (.cells #[.bool plus] 4)) (n + 1) 4 #[.bool plus] := by rw [← hz1]; exact Has.new _ _ _
  have z0b := z0.alloc (.cells #[.bool plus] 4)
  obtain ⟨w2, h2⟩ : ∃ w2, w1.alloc (.cells #[.bool plus] 4) = w2 := ⟨_, rfl⟩
  have hz2 : w2.heap.size = n + 1 + 1 := by rw [← h2, World.size_alloc, hz1]
  rw [h2] at z1 z0b
  have z2 : Has (w2.alloc (.cells #[.string ⟨#[]⟩] 9)) (n + 1 + 1) 9 #[.string ⟨#[]⟩] := by rw [← hz2]; exact Has.new _ _ _
  have z0c := z0b.alloc (.cells #[.string ⟨#[]⟩] 9)
  have z1c := z1.alloc (.cells #[.string ⟨#[]⟩] 9)
  obtain ⟨w3, h3⟩ : ∃ w3, w2.alloc (.cells #[.string ⟨#[]⟩] 9) = w3 := ⟨_, rfl⟩
  have hz3 : w3.heap.size = n + 1 + 1 + 1 := by rw [← h3, World.size_alloc, hz2]
  rw [h3] at z2 z0c z1c
  have hB : Below w.heap.size w w3 := by
    rw [← h3, ← h2, ← h1]
    exact (((Below.refl _ _).alloc (Nat.le_refl _) _).alloc (by simp) _).alloc (by simp; omega) _
  have e4 : Has (w3.alloc (.cells #[.int .i64 0] 27)) w3.heap.size 27 #[.int .i64 0] := Has.new _ _ _
  have b4 : Below w.heap.size w (w3.alloc (.cells #[.int .i64 0] 27)) := hB.alloc (by omega) _
  have hT4 := hT.below b4
  have hen := enters_of (P := Tryz.prog) Tryz.func31 (by kernel_rfl) rfl
  have hmf : ∀ (fn : Fn) (first cap : Array Value) (w : World), (Instr.makeFunc fn first cap).run Tryz.prog w = .ok (.func fn first cap) w := fun _ _ _ _ => rfl
  obtain ⟨o, ho⟩ : ∃ o, decL plus s = o := ⟨_, rfl⟩
  rw [ho]
  unfold DecR
  cases o with
  | none =>
    have ht := Lib.hid (tried_no 31 #[.pointer (some ⟨n, 0, none⟩), .pointer (some ⟨n + 1, 0, none⟩), .pointer (some ⟨n + 1 + 1, 0, none⟩)] 210 w3 (fun X => Has X (n + 1 + 1) 9 #[.string ⟨#[]⟩] ∧ Below w.heap.size w X) hen
      (fun X u ⟨h1, h2⟩ => ⟨(((Grew.refl w3.heap.size X).setT 0 u).has h1 (by omega)).alloc _, (h2.setCell (p := ⟨w3.heap.size, 0, none⟩) (by show _ ≤ w3.heap.size; omega) u).alloc (by have := h2.size; simp [World.setCell]; omega) _⟩)
      (decode1_no plus s ho hs n (n + 1) (n + 1 + 1) w3.heap.size w _ hT4 (z0c.alloc _) (z1c.alloc _) (z2.alloc _) e4 b4))
    clear z0 z0b z0c z1 z1c z2 e4 b4 hT4 hT hB hen
    go_enter Tryz.func11, Tryz.ntmps11
    go_wp2_with (go_at_call 24; (with_reducible refine Calls.mono ht.out ?_); rintro e w5 ⟨rfl, hh5, hb5⟩; have c0 := hh5.cell 0; have hb5' := Lib.hid hb5; clear hh5 hb5)
    go_ret2
    exact ⟨rfl, hb5'.out⟩
  | some l =>
    have ht := Lib.hid (tried_yes 31 #[.pointer (some ⟨n, 0, none⟩), .pointer (some ⟨n + 1, 0, none⟩), .pointer (some ⟨n + 1 + 1, 0, none⟩)] w3 (fun X => Has X (n + 1 + 1) 9 #[.string ⟨l.toArray⟩] ∧ Below w.heap.size w X) hen
      (fun X u ⟨h1, h2⟩ => ⟨((Grew.refl w3.heap.size X).setT 0 u).has h1 (by omega), h2.setCell (p := ⟨w3.heap.size, 0, none⟩) (by show _ ≤ w3.heap.size; omega) u⟩)
      (decode1_yes plus s l ho hs n (n + 1) (n + 1 + 1) w3.heap.size w _ hT4 (z0c.alloc _) (z1c.alloc _) (z2.alloc _) e4 b4 (by omega) (by omega)))
    clear z0 z0b z0c z1 z1c z2 e4 b4 hT4 hT hB hen
    go_enter Tryz.func11, Tryz.ntmps11
    go_wp2_with (go_at_call 24; (with_reducible refine Calls.mono ht.out ?_); rintro e w5 ⟨rfl, hh5, hb5⟩; have c0 := hh5.cell 0; have hb5' := Lib.hid hb5; clear hh5 hb5)
    go_ret2
    exact ⟨rfl, hb5'.out⟩
end Go.Proofs.YtcogdfgmmpfkkaaGreatDoor
