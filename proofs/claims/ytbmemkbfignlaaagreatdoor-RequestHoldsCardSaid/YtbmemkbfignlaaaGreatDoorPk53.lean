import Derived.Test.YtbmemkbfignlaaaGreatDoorPk48
import Derived.Test.YtbmemkbfignlaaaGreatDoorPk47
import Derived.Test.YtbmemkbfignlaaaGreatDoorPk50
import Derived.Test.YtbmemkbfignlaaaGreatDoorPk45
import Derived.Test.YtbmemkbfignlaaaGreatDoorPk49
namespace Go.Proofs.YtbmemkbfignlaaaGreatDoor
open Go.RowKit Go.Shelf
attribute [local go_sem] Oper.semAt_some

/-! ## Asking -/
theorem hdsO_two (W : World) (n0 : Nat) (q r : PairL) (h : n0 ≤ W.heap.size) : HdsO (W.alloc (.cells #[.string ⟨q.1.toArray⟩, .string ⟨q.2.toArray⟩, .string ⟨r.1.toArray⟩, .string ⟨r.2.toArray⟩] 56)) n0 (.slice (some ⟨W.heap.size, 0, none⟩) 2 2) [q, r] :=
  ⟨rfl, .inr ⟨W.heap.size, 2, _, rfl, h, heap_alloc_new W _, Nat.le_refl _, by decide, rfl, rfl⟩⟩
theorem HdsO.base {W : World} {n0 m : Nat} {v : Value} {l : List PairL} (h : HdsO W n0 v l) (hm : m ≤ n0) : HdsO W m v l := by
  refine ⟨h.1, ?_⟩
  rcases h.2 with h | ⟨g, cap, cur, rfl, hb, r⟩
  · exact .inl h
  · exact .inr ⟨g, cap, cur, rfl, by omega, r⟩
theorem HdsO.set {W : World} {n0 k : Nat} {v : Value} {l : List PairL} (h : HdsO W n0 v l) (hk : k < n0) (i : Nat) (u : Value) : HdsO (W.setCell ⟨k, i, none⟩ u) n0 v l :=
  h.kept fun g e => by
    have := (h.own g e).1
    exact Below.heap_setCell W ⟨k, i, none⟩ u g (show g ≠ k by omega)
theorem cat_enc (path : List UInt8) : ((⟨#[71, 69, 84, 32]⟩ : ByteArray) ++ ⟨path.toArray⟩ ++ ⟨#[32]⟩ ++ ⟨#[72, 84, 84, 80, 47, 49, 46, 49]⟩) = ⟨(Rr.encF path).toArray⟩ := by
  show (⟨Rr.preL.toArray⟩ : ByteArray) ++ ⟨path.toArray⟩ ++ ⟨([32] : List UInt8).toArray⟩ ++ ⟨Rr.newerL.toArray⟩ = _
  rw [app_str, app_str, app_str]
  simp [Rr.encF, Rr.postL, Rr.newerL]
theorem cat_enc2 (path : List UInt8) : ((⟨#[71, 69, 84, 32]⟩ : ByteArray) ++ ⟨path.toArray⟩ ++ ⟨#[32, 72, 84, 84, 80, 47, 49, 46, 49]⟩) = ⟨(Rr.encF path).toArray⟩ := by
  show (⟨Rr.preL.toArray⟩ : ByteArray) ++ ⟨path.toArray⟩ ++ ⟨Rr.postL.toArray⟩ = _
  rw [app_str, app_str]
  simp [Rr.encF]
def EncR (path id : List UInt8) (w : World) (e : Ending) (w' : World) : Prop := (∃ v, e = .returned (.agg #[.string ⟨(Rr.encF path).toArray⟩, v]) ∧ HdsO w' w.heap.size v (Rr.encFl id)) ∧ Below w.heap.size w w'
set_option maxRecDepth 100000 in
set_option maxHeartbeats 8000000 in
theorem asking_none (path : List UInt8) (t : TgL) (w : World) (hT : TabT w) (hp : parseTg path = some t) (hl : path.length ≤ 100) : Calls Tryz.prog 33 #[.string ⟨path.toArray⟩, .string ⟨#[]⟩] w (EncR path [] w) := by
  obtain ⟨n, hn⟩ : ∃ n, w.heap.size = n := ⟨_, rfl⟩
  have h1 := Lib.hid (fun W (hW : Below w.heap.size w W) => parseT_any path W (hT.below hW) (by omega))
  rw [hp] at h1
  unfold ParseF at h1
  simp only at h1
  have h2 := Lib.hid (fun W => value_any [] W (by simp))
  unfold BoolR at h2
  have hv : valueL [] = true := by decide +kernel
  rw [hv] at h2
  have h3 := Lib.hid (fun W => mustR_yes 2 W)
  obtain ⟨w1, hw1⟩ : ∃ w1, w.alloc (.cells #[.string ⟨#[]⟩, .slice none 0 0] 28) = w1 := ⟨_, rfl⟩
  have hB1 : Below w.heap.size w w1 := by rw [← hw1]; exact (Below.refl _ _).alloc (Nat.le_refl _) _
  have z0 : Has w1 n 28 #[.string ⟨#[]⟩, .slice none 0 0] := by rw [← hw1, ← hn]; exact Has.new _ _ _
  have hz1 : w1.heap.size = n + 1 := by rw [← hw1, World.size_alloc, hn]
  have z0' := Lib.hid z0
  have hB1' := Lib.hid hB1
  have hfl : Hid (Rr.encFl [] = [(Rr.hostL, Rr.upstreamL), (Rr.accL, Rr.streamL)]) := Lib.hid (rfl)
  clear hp hv hT z0 hB1
  unfold EncR
  rw [hn]
  go_enter Tryz.func33, Tryz.ntmps33
  go_wp2_with (first
    | (go_at_call 54; (with_reducible refine Calls.mono (h1.out _ hB1'.out) ?_); rintro e w5 ⟨⟨A1, c1, A2, c2, rfl, -, -, -, -⟩, hb5⟩; have hb5' := Lib.hid hb5; clear hb5)
    | (go_at_call 55; (with_reducible refine Calls.mono (h2.out _) ?_); rintro e w6 ⟨rfl, hb6⟩; have hC6 := Lib.hid (below_on (hb5'.out.alloc hb5'.out.size _) hb6); obtain ⟨w8, hw8⟩ : ∃ w8, w6.alloc (.cells #[.string ⟨#[104, 111, 115, 116]⟩, .string ⟨#[117, 112, 115, 116, 114, 101, 97, 109]⟩, .string ⟨#[97, 99, 99, 101, 112, 116]⟩, .string ⟨#[116, 101, 120, 116, 47, 101, 118, 101, 110, 116, 45, 115, 116, 114, 101, 97, 109]⟩] 56) = w8 := ⟨_, rfl⟩; have hC8 := Lib.hid (hC6.out.alloc hC6.out.size (.cells #[.string ⟨#[104, 111, 115, 116]⟩, .string ⟨#[117, 112, 115, 116, 114, 101, 97, 109]⟩, .string ⟨#[97, 99, 99, 101, 112, 116]⟩, .string ⟨#[116, 101, 120, 116, 47, 101, 118, 101, 110, 116, 45, 115, 116, 114, 101, 97, 109]⟩] 56)); rw [hw8] at hC8; have hd8 : Hid (HdsO w8 (n + 1) _ _) := Lib.hid (hw8 ▸ hdsO_two w6 (n + 1) (Rr.hostL, Rr.upstreamL) (Rr.accL, Rr.streamL) (by have := hC6.out.size; omega)); have z8 := z0'.out.below hC8.out z0'.out.lt; have f0 := z8.free 0; have f1 := z8.free 1; have g0 := z8.cell 0; have g1 := z8.cell 1; have z8' := Lib.hid z8; clear hb6 z8 hC6)
    | (go_at_call 39; (with_reducible refine Calls.mono (h3.out _) ?_); rintro e w7 ⟨rfl, rfl⟩))
  have kf := (z8'.out.put 0 (.string ((⟨#[71, 69, 84, 32]⟩ : ByteArray) ++ ⟨path.toArray⟩ ++ ⟨#[32]⟩ ++ ⟨#[72, 84, 84, 80, 47, 49, 46, 49]⟩))).put 1 (.slice (some ⟨w7.heap.size, 0, none⟩) 2 2)
  have y0 := kf.cell 0
  have y1 := kf.cell 1
  simp at y0 y1
  refine bodyPost_ret (v := .agg #[.string ((⟨#[71, 69, 84, 32]⟩ : ByteArray) ++ ⟨path.toArray⟩ ++ ⟨#[32]⟩ ++ ⟨#[72, 84, 84, 80, 47, 49, 46, 49]⟩), (.slice (some ⟨w7.heap.size, 0, none⟩) 2 2)]) (by simp [results, Tryz.results33, go_sem, y0, y1]) rfl ?_
  rw [cat_enc]
  exact ⟨⟨_, rfl, by rw [hfl.out]; exact ((hd8.out.set (by omega) 0 _).set (by omega) 1 _).base (by omega)⟩, ((show Below n w _ by rw [← hn]; exact below_on hB1'.out hC8.out).setCell (p := ⟨n, 0, none⟩) (Nat.le_refl n) _).setCell (p := ⟨n, 1, none⟩) (Nat.le_refl n) _⟩
set_option maxRecDepth 100000 in
set_option maxHeartbeats 8000000 in
theorem asking_some (path id : List UInt8) (t : TgL) (w : World) (hT : TabT w) (hp : parseTg path = some t) (hl : path.length ≤ 100) (hv : valueL id = true) (hi : id ≠ []) (hli : id.length ≤ 100) : Calls Tryz.prog 33 #[.string ⟨path.toArray⟩, .string ⟨id.toArray⟩] w (EncR path id w) := by
  obtain ⟨n, hn⟩ : ∃ n, w.heap.size = n := ⟨_, rfl⟩
  have h1 := Lib.hid (fun W (hW : Below w.heap.size w W) => parseT_any path W (hT.below hW) (by omega))
  rw [hp] at h1
  unfold ParseF at h1
  simp only at h1
  have h2 := Lib.hid (fun W => value_any id W (by omega))
  unfold BoolR at h2
  rw [hv] at h2
  have hne : (id == []) = false := by cases id <;> simp_all
  have hne0 : ¬ id = [] := hi
  have h4 := Lib.hid (fun W => cloneS_any ⟨id.toArray⟩ W (by show id.toArray.size ≤ _; simp; omega))
  have h3 := Lib.hid (fun W => mustR_yes 2 W)
  obtain ⟨w1, hw1⟩ : ∃ w1, w.alloc (.cells #[.string ⟨#[]⟩, .slice none 0 0] 28) = w1 := ⟨_, rfl⟩
  have hB1 : Below w.heap.size w w1 := by rw [← hw1]; exact (Below.refl _ _).alloc (Nat.le_refl _) _
  have z0 : Has w1 n 28 #[.string ⟨#[]⟩, .slice none 0 0] := by rw [← hw1, ← hn]; exact Has.new _ _ _
  have hz1 : w1.heap.size = n + 1 := by rw [← hw1, World.size_alloc, hn]
  have z0' := Lib.hid z0
  have hB1' := Lib.hid hB1
  have hfl : Hid (Rr.encFl id = [(Rr.hostL, Rr.upstreamL), (Rr.accL, Rr.streamL)] ++ [(Rr.lidL, id)]) := Lib.hid (by simp [Rr.encFl, hi])
  clear hp hv hT z0 hB1
  unfold EncR
  rw [hn]
  go_enter Tryz.func33, Tryz.ntmps33
  go_wp2_with (first
    | (go_at_call 54; (with_reducible refine Calls.mono (h1.out _ hB1'.out) ?_); rintro e w5 ⟨⟨A1, c1, A2, c2, rfl, -, -, -, -⟩, hb5⟩; have hb5' := Lib.hid hb5; clear hb5)
    | (go_at_call 55; (with_reducible refine Calls.mono (h2.out _) ?_); rintro e w6 ⟨rfl, hb6⟩; have hC6 := Lib.hid (below_on (hb5'.out.alloc hb5'.out.size _) hb6); obtain ⟨w8, hw8⟩ : ∃ w8, w6.alloc (.cells #[.string ⟨#[104, 111, 115, 116]⟩, .string ⟨#[117, 112, 115, 116, 114, 101, 97, 109]⟩, .string ⟨#[97, 99, 99, 101, 112, 116]⟩, .string ⟨#[116, 101, 120, 116, 47, 101, 118, 101, 110, 116, 45, 115, 116, 114, 101, 97, 109]⟩] 56) = w8 := ⟨_, rfl⟩; have hC8 := Lib.hid (hC6.out.alloc hC6.out.size (.cells #[.string ⟨#[104, 111, 115, 116]⟩, .string ⟨#[117, 112, 115, 116, 114, 101, 97, 109]⟩, .string ⟨#[97, 99, 99, 101, 112, 116]⟩, .string ⟨#[116, 101, 120, 116, 47, 101, 118, 101, 110, 116, 45, 115, 116, 114, 101, 97, 109]⟩] 56)); rw [hw8] at hC8; have hd8 : Hid (HdsO w8 (n + 1) _ _) := Lib.hid (hw8 ▸ hdsO_two w6 (n + 1) (Rr.hostL, Rr.upstreamL) (Rr.accL, Rr.streamL) (by have := hC6.out.size; omega)); have z8 := z0'.out.below hC8.out z0'.out.lt; have f0 := z8.free 0; have f1 := z8.free 1; have g0 := z8.cell 0; have g1 := z8.cell 1; have z8' := Lib.hid z8; clear hb6 z8 hC6)
    | (go_at_call 39; (with_reducible refine Calls.mono (h3.out _) ?_); rintro e w7 ⟨rfl, rfl⟩)
    | (go_at_call 56; (with_reducible refine Calls.mono (h4.out _) ?_); rintro e w9 ⟨rfl, hb9⟩; have hC9 := Lib.hid (below_on hC8.out hb9); have hd9 := Lib.hid (hd8.out.below hb9); obtain ⟨w10, hw10⟩ : ∃ w10, w9.alloc (.cells #[.string ⟨#[108, 97, 115, 116, 45, 101, 118, 101, 110, 116, 45, 105, 100]⟩, .string ⟨id.toArray⟩] 56) = w10 := ⟨_, rfl⟩; have hC10 := Lib.hid (hC9.out.alloc hC9.out.size (.cells #[.string ⟨#[108, 97, 115, 116, 45, 101, 118, 101, 110, 116, 45, 105, 100]⟩, .string ⟨id.toArray⟩] 56)); rw [hw10] at hC10; have k10 : Has w10 w9.heap.size 56 #[.string ⟨#[108, 97, 115, 116, 45, 101, 118, 101, 110, 116, 45, 105, 100]⟩, .string ⟨id.toArray⟩] := hw10 ▸ Has.new _ _ _; have hd10 := Lib.hid (hd9.out.below (hw10 ▸ (Below.refl _ _).alloc (Nat.le_refl _) _)); have k10' := Lib.hid k10; clear hb9 k10)
    | (at_builtin; refine wpList_append_hdr rfl _ _ rfl rfl hd10.out _ (Rr.lidL, id) rfl k10'.out (by decide) (by have := hC10.out.size; omega) ?_; intro v11 w11 hd11 hg11; obtain ⟨A11, c11, e11, -⟩ := hd11.prs; have e11' : v11 = .slice A11 3 c11 := e11; clear e11; subst e11'; have hC11 := Lib.hid (hC10.out.grown hg11 hC10.out.size (fun g e => by have := (hd10.out.own g e).1; omega)); have z11 := z0'.out.below hC11.out z0'.out.lt; have f10 := z11.free 0; have f11 := z11.free 1; have g10 := z11.cell 0; have g11 := z11.cell 1; have z11' := Lib.hid z11; have hd11' := Lib.hid hd11; clear z11 hd11))
  have kf := (z11'.out.put 0 (.string ((⟨#[71, 69, 84, 32]⟩ : ByteArray) ++ ⟨path.toArray⟩ ++ ⟨#[32]⟩ ++ ⟨#[72, 84, 84, 80, 47, 49, 46, 49]⟩))).put 1 (.slice A11 3 c11)
  have y0 := kf.cell 0
  have y1 := kf.cell 1
  simp at y0 y1
  refine bodyPost_ret (v := .agg #[.string ((⟨#[71, 69, 84, 32]⟩ : ByteArray) ++ ⟨path.toArray⟩ ++ ⟨#[32]⟩ ++ ⟨#[72, 84, 84, 80, 47, 49, 46, 49]⟩), (.slice A11 3 c11)]) (by simp [results, Tryz.results33, go_sem, y0, y1]) rfl ?_
  rw [cat_enc]
  exact ⟨⟨_, rfl, by rw [hfl.out]; exact ((hd11'.out.set (by omega) 0 _).set (by omega) 1 _).base (by omega)⟩, ((show Below n w _ by rw [← hn]; exact below_on hB1'.out hC11.out).setCell (p := ⟨n, 0, none⟩) (Nat.le_refl n) _).setCell (p := ⟨n, 1, none⟩) (Nat.le_refl n) _⟩
end Go.Proofs.YtbmemkbfignlaaaGreatDoor

namespace Go.Proofs.YtbmemkbfignlaaaGreatDoor
open Go.RowKit Go.Shelf
attribute [local go_sem] Oper.semAt_some

/-! ## What may not be asked -/
def askB (path id : List UInt8) : Bool := (parseTg path).isSome && valueL id
set_option maxRecDepth 100000 in
set_option maxHeartbeats 8000000 in
theorem asking_no (path id : List UInt8) (w : World) (hT : TabT w) (hl : path.length ≤ 100) (hli : id.length ≤ 100) (hb : askB path id = false) : Calls Tryz.prog 33 #[.string ⟨path.toArray⟩, .string ⟨id.toArray⟩] w fun e w' => e = gaveER 2 ∧ Below w.heap.size w w' := by
  obtain ⟨n, hn⟩ : ∃ n, w.heap.size = n := ⟨_, rfl⟩
  have h1 := Lib.hid (fun W (hW : Below w.heap.size w W) => parseT_any path W (hT.below hW) (by omega))
  have h2 := Lib.hid (fun W => value_any id W (by omega))
  unfold BoolR at h2
  have h3 := Lib.hid (fun W => mustR_no 2 W)
  obtain ⟨w1, hw1⟩ : ∃ w1, w.alloc (.cells #[.string ⟨#[]⟩, .slice none 0 0] 28) = w1 := ⟨_, rfl⟩
  have hB1 : Below w.heap.size w w1 := by rw [← hw1]; exact (Below.refl _ _).alloc (Nat.le_refl _) _
  have hB1' := Lib.hid hB1
  unfold askB at hb
  clear hT hB1
  cases hp : parseTg path with
  | none =>
    rw [hp] at h1
    unfold ParseF at h1
    simp only at h1
    unfold tgV0 at h1
    clear hp hb
    go_enter Tryz.func33, Tryz.ntmps33
    go_wp2_with (first
      | (go_at_call 54; (with_reducible refine Calls.mono (h1.out _ hB1'.out) ?_); rintro e w5 ⟨rfl, hb5⟩; have hb5' := Lib.hid (below_on hB1'.out hb5); clear hb5)
      | (go_at_call 39; (with_reducible refine Calls.mono (h3.out _) ?_); rintro e w7 ⟨rfl, rfl⟩))
    exact ⟨rfl, rfl, hb5'.out.alloc hb5'.out.size _⟩
  | some t =>
    rw [hp] at h1 hb
    have hv : valueL id = false := by simpa using hb
    unfold ParseF at h1
    simp only at h1
    rw [hv] at h2
    clear hp hb hv
    go_enter Tryz.func33, Tryz.ntmps33
    go_wp2_with (first
      | (go_at_call 54; (with_reducible refine Calls.mono (h1.out _ hB1'.out) ?_); rintro e w5 ⟨⟨A1, c1, A2, c2, rfl, -, -, -, -⟩, hb5⟩; have hb5' := Lib.hid (below_on hB1'.out hb5); clear hb5)
      | (go_at_call 55; (with_reducible refine Calls.mono (h2.out _) ?_); rintro e w6 ⟨rfl, hb6⟩; have hb6' := Lib.hid (below_on (hb5'.out.alloc hb5'.out.size _) hb6); clear hb6)
      | (go_at_call 39; (with_reducible refine Calls.mono (h3.out _) ?_); rintro e w7 ⟨rfl, rfl⟩))
    exact ⟨rfl, rfl, hb6'.out⟩
theorem asking_yes (path id : List UInt8) (w : World) (hT : TabT w) (hl : path.length ≤ 100) (hli : id.length ≤ 100) (hb : askB path id = true) : Calls Tryz.prog 33 #[.string ⟨path.toArray⟩, .string ⟨id.toArray⟩] w (EncR path id w) := by
  unfold askB at hb
  rw [Bool.and_eq_true] at hb
  obtain ⟨t, hp⟩ := Option.isSome_iff_exists.1 hb.1
  by_cases hi : id = []
  · subst hi
    exact asking_none path t w hT hp hl
  · exact asking_some path id t w hT hp hl hb.2 hi hli
/-- What Encode answers. -/
def encF' (path id : List UInt8) : List UInt8 := if askB path id = true then Rr.encF path else []
def encL' (path id : List UInt8) : List PairL := if askB path id = true then Rr.encFl id else []
def EncE (path id : List UInt8) (w : World) (e : Ending) (w' : World) : Prop :=
  (∃ A c, e = .returned (.tuple #[.agg #[.string ⟨(encF' path id).toArray⟩, .slice A (encL' path id).length c], .int .i64 (if askB path id = true then 0 else 2)]) ∧ Prs w' A (encL' path id)) ∧ Below w.heap.size w w'
def EncY (n : Nat) (f : List UInt8) (l : List PairL) (w X : World) : Prop := ∃ v, Has X (n + 3) 28 #[.string ⟨f.toArray⟩, v] ∧ HdsO X (n + 5) v l ∧ Has X (n + 2) 28 #[.string ⟨#[]⟩, .slice none 0 0] ∧ Below n w X
set_option maxRecDepth 100000 in
set_option maxHeartbeats 8000000 in
theorem enc1_yes (n : Nat) (path id : List UInt8) (w w3 : World) (hT : TabT w3) (hl : path.length ≤ 100) (hli : id.length ≤ 100) (hb : askB path id = true) (hz : w3.heap.size = n + 5)
    (z0 : Has w3 n 9 #[.string ⟨path.toArray⟩]) (z1 : Has w3 (n + 1) 9 #[.string ⟨id.toArray⟩]) (z2 : Has w3 (n + 2) 28 #[.string ⟨#[]⟩, .slice none 0 0]) (z3 : Has w3 (n + 3) 28 #[.string ⟨#[]⟩, .slice none 0 0]) (z4 : Has w3 (n + 4) 42 #[.int .i64 0]) (hB : Below n w w3) :
    Calls Tryz.prog 32 #[.pointer (some ⟨n, 0, none⟩), .pointer (some ⟨n + 1, 0, none⟩), .pointer (some ⟨n + 3, 0, none⟩)] w3 fun e w' => e = .returned (.tuple #[]) ∧ EncY n (Rr.encF path) (Rr.encFl id) w w' ∧ Has w' (n + 4) 42 #[.int .i64 0] := by
  have ha := Lib.hid (asking_yes path id w3 hT hl hli hb)
  unfold EncR at ha
  have k0 := z0.cell 0
  have k1 := z1.cell 0
  have z2' := Lib.hid z2
  have z3' := Lib.hid z3
  have z4' := Lib.hid z4
  have hB' := Lib.hid hB
  clear z0 z1 z2 z3 z4 hB hT hb
  go_enter Tryz.func32, Tryz.ntmps32
  go_wp2_with (go_at_call 33; (with_reducible refine Calls.mono ha.out ?_); rintro e w5 ⟨⟨v, rfl, hd⟩, hb5⟩; obtain ⟨A5, c5, e5, -⟩ := hd.prs; subst e5; have zf := z3'.out.below hb5 z3'.out.lt; have f0 := zf.free 0; have f1 := zf.free 1; have g0 := zf.cell 0; have g1 := zf.cell 1; have zf' := Lib.hid zf; have hd' := Lib.hid hd; have hb5' := Lib.hid hb5; clear zf hd hb5)
  go_end0
  refine ⟨rfl, ⟨_, ?_, ((hd'.out.base (by omega)).set (show n + 3 < n + 5 by omega) 0 _).set (show n + 3 < n + 5 by omega) 1 _, ((z2'.out.below hb5'.out z2'.out.lt).other (by omega) _).other (by omega) _, ((hB'.out.trans (hb5'.out.mono (by omega))).setCell (p := ⟨n + 3, 0, none⟩) (by show n ≤ n + 3; omega) _).setCell (p := ⟨n + 3, 1, none⟩) (by show n ≤ n + 3; omega) _⟩, ((z4'.out.below hb5'.out z4'.out.lt).other (by omega) _).other (by omega) _⟩
  simpa using (zf'.out.put 0 _).put 1 _
end Go.Proofs.YtbmemkbfignlaaaGreatDoor

namespace Go.Proofs.YtbmemkbfignlaaaGreatDoor
open Go.RowKit Go.Shelf
attribute [local go_sem] Oper.semAt_some

/-! ## Encode -/
theorem EncY.set {n : Nat} {f : List UInt8} {l : List PairL} {w X : World} (h : EncY n f l w X) (u : Value) : EncY n f l w (X.setCell ⟨n + 4, 0, none⟩ u) := by
  obtain ⟨v, h1, h2, h3, h4⟩ := h
  exact ⟨v, h1.other (by omega) _, h2.set (by omega) 0 u, h3.other (by omega) _, h4.setCell (p := ⟨n + 4, 0, none⟩) (by show n ≤ n + 4; omega) _⟩
set_option maxRecDepth 100000 in
set_option maxHeartbeats 8000000 in
theorem enc1_no (n : Nat) (path id : List UInt8) (w w3 : World) (hT : TabT w3) (hl : path.length ≤ 100) (hli : id.length ≤ 100) (hb : askB path id = false) (hz : w3.heap.size = n + 5)
    (z0 : Has w3 n 9 #[.string ⟨path.toArray⟩]) (z1 : Has w3 (n + 1) 9 #[.string ⟨id.toArray⟩]) (z2 : Has w3 (n + 2) 28 #[.string ⟨#[]⟩, .slice none 0 0]) (z3 : Has w3 (n + 3) 28 #[.string ⟨#[]⟩, .slice none 0 0]) (z4 : Has w3 (n + 4) 42 #[.int .i64 0]) (hB : Below n w w3) :
    Calls Tryz.prog 32 #[.pointer (some ⟨n, 0, none⟩), .pointer (some ⟨n + 1, 0, none⟩), .pointer (some ⟨n + 3, 0, none⟩)] w3 fun e w' => e = gaveER 2 ∧ EncY n [] [] w w' ∧ Has w' (n + 4) 42 #[.int .i64 0] := by
  have ha := Lib.hid (asking_no path id w3 hT hl hli hb)
  have k0 := z0.cell 0
  have k1 := z1.cell 0
  have z2' := Lib.hid z2
  have z3' := Lib.hid z3
  have z4' := Lib.hid z4
  have hB' := Lib.hid hB
  clear z0 z1 z2 z3 z4 hB hT hb
  go_enter Tryz.func32, Tryz.ntmps32
  go_wp2_with (go_at_call 33; (with_reducible refine Calls.mono ha.out ?_); rintro e w5 ⟨rfl, hb5⟩; have hb5' := Lib.hid hb5; clear hb5)
  exact ⟨rfl, rfl, ⟨_, z3'.out.below hb5'.out z3'.out.lt, hdsO_nil _ _, z2'.out.below hb5'.out z2'.out.lt, hB'.out.trans (hb5'.out.mono (by omega))⟩, z4'.out.below hb5'.out z4'.out.lt⟩
set_option maxRecDepth 100000 in
set_option maxHeartbeats 8000000 in
theorem encode_any (path id : List UInt8) (w : World) (hT : TabT w) (hl : path.length ≤ 100) (hli : id.length ≤ 100) : Calls Tryz.prog 12 #[.string ⟨path.toArray⟩, .string ⟨id.toArray⟩] w (EncE path id w) := by
  obtain ⟨n, hn⟩ : ∃ n, w.heap.size = n := ⟨_, rfl⟩
  obtain ⟨w1, hw1⟩ : ∃ w1, w.alloc (.cells #[.string ⟨path.toArray⟩] 9) = w1 := ⟨_, rfl⟩
  have hB1 : Below w.heap.size w w1 := by rw [← hw1]; exact (Below.refl _ _).alloc (Nat.le_refl _) _
  have z0 : Has w1 n 9 #[.string ⟨path.toArray⟩] := by rw [← hw1, ← hn]; exact Has.new _ _ _
  have hz1 : w1.heap.size = n + 1 := by rw [← hw1, World.size_alloc, hn]
  obtain ⟨w2, hw2⟩ : ∃ w2, w1.alloc (.cells #[.string ⟨id.toArray⟩] 9) = w2 := ⟨_, rfl⟩
  have hB2 : Below w1.heap.size w1 w2 := by rw [← hw2]; exact (Below.refl _ _).alloc (Nat.le_refl _) _
  have z1 : Has w2 (n + 1) 9 #[.string ⟨id.toArray⟩] := by rw [← hw2, ← hz1]; exact Has.new _ _ _
  have hz2 : w2.heap.size = n + 2 := by rw [← hw2, World.size_alloc, hz1]
  obtain ⟨w3, hw3⟩ : ∃ w3, w2.alloc (.cells #[.string ⟨#[]⟩, .slice none 0 0] 28) = w3 := ⟨_, rfl⟩
  have hB3 : Below w2.heap.size w2 w3 := by rw [← hw3]; exact (Below.refl _ _).alloc (Nat.le_refl _) _
  have z2 : Has w3 (n + 2) 28 #[.string ⟨#[]⟩, .slice none 0 0] := by rw [← hw3, ← hz2]; exact Has.new _ _ _
  have hz3 : w3.heap.size = n + 3 := by rw [← hw3, World.size_alloc, hz2]
  obtain ⟨w4, hw4⟩ : ∃ w4, w3.alloc (.cells #[.string ⟨#[]⟩, .slice none 0 0] 28) = w4 := ⟨_, rfl⟩
  have hB4 : Below w3.heap.size w3 w4 := by rw [← hw4]; exact (Below.refl _ _).alloc (Nat.le_refl _) _
  have z3 : Has w4 (n + 3) 28 #[.string ⟨#[]⟩, .slice none 0 0] := by rw [← hw4, ← hz3]; exact Has.new _ _ _
  have hz4 : w4.heap.size = n + 4 := by rw [← hw4, World.size_alloc, hz3]
  obtain ⟨w5, hw5⟩ : ∃ w5, w4.alloc (.cells #[.int .i64 0] 42) = w5 := ⟨_, rfl⟩
  have hB5 : Below w4.heap.size w4 w5 := by rw [← hw5]; exact (Below.refl _ _).alloc (Nat.le_refl _) _
  have z4 : Has w5 (n + 4) 42 #[.int .i64 0] := by rw [← hw5, ← hz4]; exact Has.new _ _ _
  have hz5 : w5.heap.size = n + 5 := by rw [← hw5, World.size_alloc, hz4]
  have hBb : Below w.heap.size w w5 := below_on (below_on (below_on (below_on hB1 hB2) hB3) hB4) hB5
  have hen := enters_of (P := Tryz.prog) Tryz.func32 (by kernel_rfl) rfl
  have hmf : ∀ (fn : Fn) (first cap : Array Value) (w : World), (Instr.makeFunc fn first cap).run Tryz.prog w = .ok (.func fn first cap) w := fun _ _ _ _ => rfl
  have y0 := (((z0.below hB2 (by omega)).below hB3 (by omega)).below hB4 (by omega)).below hB5 (by omega)
  have y1 := ((z1.below hB3 (by omega)).below hB4 (by omega)).below hB5 (by omega)
  have y2 := (z2.below hB4 (by omega)).below hB5 (by omega)
  have y3 := z3.below hB5 (by omega)
  have hBn : Below n w w5 := by rw [← hn]; exact hBb
  have ht : Hid (Calls Tryz.prog 31 #[.func (.func 32) #[] #[.pointer (some ⟨n, 0, none⟩), .pointer (some ⟨n + 1, 0, none⟩), .pointer (some ⟨n + 3, 0, none⟩)]] w4 fun e w' => e = .returned (.int .i64 (if askB path id = true then 0 else 2)) ∧ EncY n (encF' path id) (encL' path id) w w') := by
    refine Lib.hid ?_
    unfold encF' encL'
    cases hb : askB path id with
    | true =>
      have := triedR_yes 32 #[.pointer (some ⟨n, 0, none⟩), .pointer (some ⟨n + 1, 0, none⟩), .pointer (some ⟨n + 3, 0, none⟩)] w4 (EncY n (Rr.encF path) (Rr.encFl id) w) hen (fun X u h => by rw [hz4]; exact h.set u) (by rw [hw5, hz4]; exact enc1_yes n path id w w5 (hT.below hBb) hl hli hb hz5 y0 y1 y2 y3 z4 hBn)
      simpa using this
    | false =>
      have := triedR_no 32 #[.pointer (some ⟨n, 0, none⟩), .pointer (some ⟨n + 1, 0, none⟩), .pointer (some ⟨n + 3, 0, none⟩)] 2 w4 (EncY n [] [] w) hen (fun X u h => by
        rw [hz4]
        obtain ⟨v, h1, h2, h3, h4⟩ := h.set u
        exact ⟨v, h1.alloc _, h2.below ((Below.refl _ _).alloc (Nat.le_refl _) _), h3.alloc _, h4.alloc (hn ▸ h4.size) _⟩) (by rw [hw5, hz4]; exact enc1_no n path id w w5 (hT.below hBb) hl hli hb hz5 y0 y1 y2 y3 z4 hBn)
      simpa using this
  unfold EncY at ht
  unfold EncE
  generalize encF' path id = f at *
  generalize encL' path id = l at *
  generalize (if askB path id = true then (0 : Int) else 2) = z at *
  rw [hn]
  clear hB1 hB2 hB3 hB4 hB5 z0 z1 z2 z3 z4 y0 y1 y2 y3 hBb hBn hT hen
  go_enter Tryz.func12, Tryz.ntmps12
  go_wp2_with (go_at_call 31; (with_reducible refine Calls.mono ht.out ?_); rintro e w6 ⟨rfl, v, h1, h2, h3, h4⟩; obtain ⟨A6, c6, e6, hp⟩ := h2.prs; subst e6; have e0 := h1.cell 0; have e1 := h1.cell 1; have f0 := h3.free 0; have f1 := h3.free 1; have d0 := h3.cell 0; have d1 := h3.cell 1; have h2' := Lib.hid h2; have h3' := Lib.hid h3; have h4' := Lib.hid h4; clear h1 h2 h3 h4 hp)
  have kf := (h3'.out.put 0 (.string ⟨f.toArray⟩)).put 1 (.slice A6 l.length c6)
  have y0 := kf.cell 0
  have y1 := kf.cell 1
  simp at y0 y1
  refine bodyPost_ret (v := .tuple #[.agg #[.string ⟨f.toArray⟩, .slice A6 l.length c6], .int .i64 z]) (by simp [results, Tryz.results12, go_sem, y0, y1]) rfl ?_
  have hd := (h2'.out.set (show n + 2 < n + 5 by omega) 0 (.string ⟨f.toArray⟩)).set (show n + 2 < n + 5 by omega) 1 (.slice A6 l.length c6)
  obtain ⟨A, c, e, hp⟩ := hd.prs
  exact ⟨⟨A6, c6, rfl, by injection e with e1 _ e2; subst e1; exact hp⟩, (h4'.out.setCell (p := ⟨n + 2, 0, none⟩) (by show n ≤ n + 2; omega) _).setCell (p := ⟨n + 2, 1, none⟩) (by show n ≤ n + 2; omega) _⟩
end Go.Proofs.YtbmemkbfignlaaaGreatDoor

namespace Go.Proofs.YtbmemkbfignlaaaGreatDoor
open Go.RowKit Go.Shelf
attribute [local go_sem] Oper.semAt_some

/-! ## The document's Encode -/
theorem HdsO.setT {W : World} {n0 k : Nat} {v : Value} {l : List PairL} {t : TypeId} {cs : Array Value} (h : HdsO W n0 v l) (hz : Has W k t cs) (hne : t ≠ 56) (i : Nat) (u : Value) : HdsO (W.setCell ⟨k, i, none⟩ u) n0 v l :=
  h.kept fun g e => by
    obtain ⟨_, cs', h'⟩ := h.own g e
    refine Below.heap_setCell W ⟨k, i, none⟩ u g (fun e' => ?_)
    subst e'
    have := Option.some.inj (h'.symm.trans hz)
    injection this with _ ht _
    exact hne ht.symm
theorem grown_hdr {X Y : World} {v : Value} {l : List PairL} {n0 k : Nat} {t : TypeId} {cs : Array Value} (h : Has X k t cs) (hf : HdsO X n0 v l) (hg : X.grownBy Y v.ownBlock) (ht : t ≠ 56) : Has Y k t cs :=
  (hg.block k h.lt (fun e => by
    obtain ⟨_, cs', hc⟩ := hf.own k e.symm
    have := Option.some.inj ((show X.heap[k]? = _ from hc).symm.trans h)
    injection this with _ h2 _
    exact ht h2.symm)).trans h
set_option maxRecDepth 100000 in
set_option maxHeartbeats 8000000 in
theorem refEnc_no (path id : List UInt8) (w : World) (hl : path.length ≤ 100) (hli : id.length ≤ 100) (hb : askB path id = false) : Calls Tryz.prog 13 #[.string ⟨path.toArray⟩, .string ⟨id.toArray⟩] w (EncE path id w) := by
  obtain ⟨n, hn⟩ : ∃ n, w.heap.size = n := ⟨_, rfl⟩
  have h1 := Lib.hid (fun W => refParse_any path W (by omega))
  have h2 := Lib.hid (fun W => refValue_any id W (by omega))
  obtain ⟨w1, hw1⟩ : ∃ w1, w.alloc (.cells #[.string ⟨#[]⟩, .slice none 0 0] 28) = w1 := ⟨_, rfl⟩
  have hB1 : Below w.heap.size w w1 := by rw [← hw1]; exact (Below.refl _ _).alloc (Nat.le_refl _) _
  have z0 : Has w1 n 28 #[.string ⟨#[]⟩, .slice none 0 0] := by rw [← hw1, ← hn]; exact Has.new _ _ _
  have hz1 : w1.heap.size = n + 1 := by rw [← hw1, World.size_alloc, hn]
  have z0' := Lib.hid z0
  have hB1' := Lib.hid hB1
  unfold EncE
  rw [hn]
  unfold encF' encL'
  rw [hb]
  unfold askB at hb
  simp only [Bool.false_eq_true, if_false]
  clear z0 hB1
  cases hp : parseTg path with
  | none =>
    rw [hp] at h1
    unfold ParseR at h1
    simp only at h1
    unfold tgV0 at h1
    clear hp hb
    go_enter Tryz.func13, Tryz.ntmps13
    go_wp2_with (go_at_call 34; (with_reducible refine Calls.mono (h1.out _) ?_); rintro e w5 ⟨rfl, hb5⟩; have hC5 := Lib.hid (hb5.alloc hb5.size (.cells #[.slice none 0 0, .slice none 0 0] 32)); have z5 := z0'.out.below hC5.out z0'.out.lt; have f0 := z5.free 0; have f1 := z5.free 1; have g0 := z5.cell 0; have g1 := z5.cell 1; have z5' := Lib.hid z5; clear z5 hb5)
    have kf := (z5'.out.put 0 (.string ⟨#[]⟩)).put 1 (.slice none 0 0)
    have y0 := kf.cell 0
    have y1 := kf.cell 1
    simp at y0 y1
    refine bodyPost_ret (v := .tuple #[.agg #[.string ⟨#[]⟩, .slice none 0 0], .int .i64 2]) (by simp [results, Tryz.results13, go_sem, y0, y1]) rfl ?_
    exact ⟨⟨none, 0, rfl, fun h => absurd h (by simp)⟩, ((show Below n w _ by rw [← hn]; exact below_on hB1'.out hC5.out).setCell (p := ⟨n, 0, none⟩) (Nat.le_refl n) _).setCell (p := ⟨n, 1, none⟩) (Nat.le_refl n) _⟩
  | some t =>
    rw [hp] at h1 hb
    have hv : valueL id = false := by simpa using hb
    unfold ParseR at h1
    simp only at h1
    rw [hv] at h2
    clear hp hb hv
    go_enter Tryz.func13, Tryz.ntmps13
    go_wp2_with (first
      | (go_at_call 34; (with_reducible refine Calls.mono (h1.out _) ?_); rintro e w5 ⟨⟨v, rfl, A1, c1, A2, c2, rfl, -, -⟩, hb5⟩; have hC5 := Lib.hid (hb5.alloc hb5.size (.cells #[.slice A1 t.1.length c1, .slice A2 t.2.length c2] 32)); have z5 := z0'.out.below hC5.out z0'.out.lt; have f0 := z5.free 0; have f1 := z5.free 1; have g0 := z5.cell 0; have g1 := z5.cell 1; have z5' := Lib.hid z5; clear z5 hb5)
      | (go_at_call 35; (with_reducible refine Calls.mono (h2.out _) ?_); rintro e w6 ⟨rfl, rfl⟩))
    have kf := (z5'.out.put 0 (.string ⟨#[]⟩)).put 1 (.slice none 0 0)
    have y0 := kf.cell 0
    have y1 := kf.cell 1
    simp at y0 y1
    refine bodyPost_ret (v := .tuple #[.agg #[.string ⟨#[]⟩, .slice none 0 0], .int .i64 2]) (by simp [results, Tryz.results13, go_sem, y0, y1]) rfl ?_
    exact ⟨⟨none, 0, rfl, fun h => absurd h (by simp)⟩, ((show Below n w _ by rw [← hn]; exact below_on hB1'.out hC5.out).setCell (p := ⟨n, 0, none⟩) (Nat.le_refl n) _).setCell (p := ⟨n, 1, none⟩) (Nat.le_refl n) _⟩
set_option maxRecDepth 100000 in
set_option maxHeartbeats 8000000 in
theorem refEnc_none (path id : List UInt8) (t : TgL) (w : World) (hl : path.length ≤ 100) (hli : id.length ≤ 100) (hp : parseTg path = some t) (hv : valueL id = true) (hi : id = []) : Calls Tryz.prog 13 #[.string ⟨path.toArray⟩, .string ⟨id.toArray⟩] w (EncE path id w) := by
  obtain ⟨n, hn⟩ : ∃ n, w.heap.size = n := ⟨_, rfl⟩
  have h1 := Lib.hid (fun W => refParse_any path W (by omega))
  have h2 := Lib.hid (fun W => refValue_any id W (by omega))
  obtain ⟨w1, hw1⟩ : ∃ w1, w.alloc (.cells #[.string ⟨#[]⟩, .slice none 0 0] 28) = w1 := ⟨_, rfl⟩
  have hB1 : Below w.heap.size w w1 := by rw [← hw1]; exact (Below.refl _ _).alloc (Nat.le_refl _) _
  have z0 : Has w1 n 28 #[.string ⟨#[]⟩, .slice none 0 0] := by rw [← hw1, ← hn]; exact Has.new _ _ _
  have hz1 : w1.heap.size = n + 1 := by rw [← hw1, World.size_alloc, hn]
  have z0' := Lib.hid z0
  have hB1' := Lib.hid hB1
  unfold EncE
  rw [hn]
  have hb : askB path id = true := by simp [askB, hp, hv]
  unfold encF' encL'
  rw [hb]
  simp only [if_true]
  rw [hp] at h1
  unfold ParseR at h1
  simp only at h1
  rw [hv] at h2
  have hfl : Hid (Rr.encFl id = [(Rr.hostL, Rr.upstreamL), (Rr.accL, Rr.streamL)]) := Lib.hid (by simp [Rr.encFl, hi])
  subst hi
  clear z0 hB1 hp hb hv
  go_enter Tryz.func13, Tryz.ntmps13
  go_wp2_with (first
    | (go_at_call 34; (with_reducible refine Calls.mono (h1.out _) ?_); rintro e w5 ⟨⟨v, rfl, A1, c1, A2, c2, rfl, -, -⟩, hb5⟩; have hC5 := Lib.hid (hb5.alloc hb5.size (.cells #[.slice A1 t.1.length c1, .slice A2 t.2.length c2] 32)); clear hb5)
    | (go_at_call 35; (with_reducible refine Calls.mono (h2.out _) ?_); rintro e w6 ⟨rfl, rfl⟩; obtain ⟨w6, hw6⟩ : ∃ w6, w5.alloc (.cells #[.slice A1 t.1.length c1, .slice A2 t.2.length c2] 32) = w6 := ⟨_, rfl⟩; rw [hw6] at hC5 ⊢; clear hw6; obtain ⟨m, hm⟩ : ∃ m, w6.heap.size = m := ⟨_, rfl⟩; obtain ⟨w8, hw8⟩ : ∃ w8, w6.alloc (.cells #[.string ⟨#[104, 111, 115, 116]⟩, .string ⟨#[117, 112, 115, 116, 114, 101, 97, 109]⟩, .string ⟨#[97, 99, 99, 101, 112, 116]⟩, .string ⟨#[116, 101, 120, 116, 47, 101, 118, 101, 110, 116, 45, 115, 116, 114, 101, 97, 109]⟩] 56) = w8 := ⟨_, rfl⟩; have hC8 := Lib.hid (hC5.out.alloc hC5.out.size (.cells #[.string ⟨#[104, 111, 115, 116]⟩, .string ⟨#[117, 112, 115, 116, 114, 101, 97, 109]⟩, .string ⟨#[97, 99, 99, 101, 112, 116]⟩, .string ⟨#[116, 101, 120, 116, 47, 101, 118, 101, 110, 116, 45, 115, 116, 114, 101, 97, 109]⟩] 56)); rw [hw8] at hC8; have hd8 : Hid (HdsO w8 (n + 1) (.slice (some ⟨m, 0, none⟩) 2 2) _) := Lib.hid (hm ▸ hw8 ▸ hdsO_two w6 (n + 1) (Rr.hostL, Rr.upstreamL) (Rr.accL, Rr.streamL) (by have := hC5.out.size; omega)); have hz8 : w8.heap.size = m + 1 := by rw [← hw8, World.size_alloc, hm]
       obtain ⟨w9, hw9⟩ : ∃ w9, w8.alloc (.cells #[.string ((⟨#[71, 69, 84, 32]⟩ : ByteArray) ++ ⟨path.toArray⟩ ++ ⟨#[32, 72, 84, 84, 80, 47, 49, 46, 49]⟩), .slice (some ⟨m, 0, none⟩) 2 2] 28) = w9 := ⟨_, rfl⟩; have hz9 : w9.heap.size = m + 2 := by rw [← hw9, World.size_alloc, hz8]
       have hC9 := Lib.hid (hC8.out.alloc hC8.out.size (.cells #[.string ((⟨#[71, 69, 84, 32]⟩ : ByteArray) ++ ⟨path.toArray⟩ ++ ⟨#[32, 72, 84, 84, 80, 47, 49, 46, 49]⟩), .slice (some ⟨m, 0, none⟩) 2 2] 28)); rw [hw9] at hC9
       have k9 : Has w9 (m + 1) 28 #[.string ((⟨#[71, 69, 84, 32]⟩ : ByteArray) ++ ⟨path.toArray⟩ ++ ⟨#[32, 72, 84, 84, 80, 47, 49, 46, 49]⟩), .slice (some ⟨m, 0, none⟩) 2 2] := by rw [← hw9, ← hz8]; exact Has.new _ _ _
       have hd9 := Lib.hid (hd8.out.below (hw9 ▸ (Below.refl _ _).alloc (Nat.le_refl _) _))
       have z9 := z0'.out.below hC9.out z0'.out.lt
       have f0 := z9.free 0; have f1 := z9.free 1; have g0 := z9.cell 0; have g1 := z9.cell 1; have q0 := k9.cell 0; have q1 := k9.cell 1; have p0 := k9.free 0; have p1 := k9.free 1; have z9' := Lib.hid z9; have k9' := Lib.hid k9; clear z9 k9))
  have kf := (z9'.out.put 0 (.string ((⟨#[71, 69, 84, 32]⟩ : ByteArray) ++ ⟨path.toArray⟩ ++ ⟨#[32, 72, 84, 84, 80, 47, 49, 46, 49]⟩))).put 1 (.slice (some ⟨m, 0, none⟩) 2 2)
  have y0 := kf.cell 0
  have y1 := kf.cell 1
  simp at y0 y1
  refine bodyPost_ret (v := .tuple #[.agg #[.string ((⟨#[71, 69, 84, 32]⟩ : ByteArray) ++ ⟨path.toArray⟩ ++ ⟨#[32, 72, 84, 84, 80, 47, 49, 46, 49]⟩), (.slice (some ⟨m, 0, none⟩) 2 2)], .int .i64 0]) (by simp [results, Tryz.results13, go_sem, y0, y1]) rfl ?_
  rw [cat_enc2]
  have hdf := (hd9.out.set (show n < n + 1 by omega) 0 (.string ((⟨#[71, 69, 84, 32]⟩ : ByteArray) ++ ⟨path.toArray⟩ ++ ⟨#[32, 72, 84, 84, 80, 47, 49, 46, 49]⟩))).set (show n < n + 1 by omega) 1 (.slice (some ⟨m, 0, none⟩) 2 2)
  rw [cat_enc2] at hdf
  obtain ⟨A9, c9, e9, hpf⟩ := hdf.prs
  rw [hfl.out]
  exact ⟨⟨_, _, rfl, by injection e9 with e1 _ _; subst e1; exact hpf⟩, ((show Below n w _ by rw [← hn]; exact below_on hB1'.out hC9.out).setCell (p := ⟨n, 0, none⟩) (Nat.le_refl n) _).setCell (p := ⟨n, 1, none⟩) (Nat.le_refl n) _⟩
set_option maxRecDepth 100000 in
set_option maxHeartbeats 8000000 in
theorem refEnc_some (path id : List UInt8) (t : TgL) (w : World) (hl : path.length ≤ 100) (hli : id.length ≤ 100) (hp : parseTg path = some t) (hv : valueL id = true) (hi : id ≠ []) : Calls Tryz.prog 13 #[.string ⟨path.toArray⟩, .string ⟨id.toArray⟩] w (EncE path id w) := by
  obtain ⟨n, hn⟩ : ∃ n, w.heap.size = n := ⟨_, rfl⟩
  have h1 := Lib.hid (fun W => refParse_any path W (by omega))
  have h2 := Lib.hid (fun W => refValue_any id W (by omega))
  obtain ⟨w1, hw1⟩ : ∃ w1, w.alloc (.cells #[.string ⟨#[]⟩, .slice none 0 0] 28) = w1 := ⟨_, rfl⟩
  have hB1 : Below w.heap.size w w1 := by rw [← hw1]; exact (Below.refl _ _).alloc (Nat.le_refl _) _
  have z0 : Has w1 n 28 #[.string ⟨#[]⟩, .slice none 0 0] := by rw [← hw1, ← hn]; exact Has.new _ _ _
  have hz1 : w1.heap.size = n + 1 := by rw [← hw1, World.size_alloc, hn]
  have z0' := Lib.hid z0
  have hB1' := Lib.hid hB1
  unfold EncE
  rw [hn]
  have hb : askB path id = true := by simp [askB, hp, hv]
  unfold encF' encL'
  rw [hb]
  simp only [if_true]
  rw [hp] at h1
  unfold ParseR at h1
  simp only at h1
  rw [hv] at h2
  have hfl : Hid (Rr.encFl id = [(Rr.hostL, Rr.upstreamL), (Rr.accL, Rr.streamL)] ++ [(Rr.lidL, id)]) := Lib.hid (by simp [Rr.encFl, hi])
  have hne : (id == []) = false := by cases id <;> simp_all
  clear z0 hB1 hp hb hv
  go_enter Tryz.func13, Tryz.ntmps13
  go_wp2_with (first
    | (go_at_call 34; (with_reducible refine Calls.mono (h1.out _) ?_); rintro e w5 ⟨⟨v, rfl, A1, c1, A2, c2, rfl, -, -⟩, hb5⟩; have hC5 := Lib.hid (hb5.alloc hb5.size (.cells #[.slice A1 t.1.length c1, .slice A2 t.2.length c2] 32)); clear hb5)
    | (go_at_call 35; (with_reducible refine Calls.mono (h2.out _) ?_); rintro e w6 ⟨rfl, rfl⟩; obtain ⟨w6, hw6⟩ : ∃ w6, w5.alloc (.cells #[.slice A1 t.1.length c1, .slice A2 t.2.length c2] 32) = w6 := ⟨_, rfl⟩; rw [hw6] at hC5 ⊢; clear hw6; obtain ⟨m, hm⟩ : ∃ m, w6.heap.size = m := ⟨_, rfl⟩; obtain ⟨w8, hw8⟩ : ∃ w8, w6.alloc (.cells #[.string ⟨#[104, 111, 115, 116]⟩, .string ⟨#[117, 112, 115, 116, 114, 101, 97, 109]⟩, .string ⟨#[97, 99, 99, 101, 112, 116]⟩, .string ⟨#[116, 101, 120, 116, 47, 101, 118, 101, 110, 116, 45, 115, 116, 114, 101, 97, 109]⟩] 56) = w8 := ⟨_, rfl⟩; have hC8 := Lib.hid (hC5.out.alloc hC5.out.size (.cells #[.string ⟨#[104, 111, 115, 116]⟩, .string ⟨#[117, 112, 115, 116, 114, 101, 97, 109]⟩, .string ⟨#[97, 99, 99, 101, 112, 116]⟩, .string ⟨#[116, 101, 120, 116, 47, 101, 118, 101, 110, 116, 45, 115, 116, 114, 101, 97, 109]⟩] 56)); rw [hw8] at hC8; have hd8 : Hid (HdsO w8 (n + 1) (.slice (some ⟨m, 0, none⟩) 2 2) _) := Lib.hid (hm ▸ hw8 ▸ hdsO_two w6 (n + 1) (Rr.hostL, Rr.upstreamL) (Rr.accL, Rr.streamL) (by have := hC5.out.size; omega)); have hz8 : w8.heap.size = m + 1 := by rw [← hw8, World.size_alloc, hm]
       obtain ⟨w9, hw9⟩ : ∃ w9, w8.alloc (.cells #[.string ((⟨#[71, 69, 84, 32]⟩ : ByteArray) ++ ⟨path.toArray⟩ ++ ⟨#[32, 72, 84, 84, 80, 47, 49, 46, 49]⟩), .slice (some ⟨m, 0, none⟩) 2 2] 28) = w9 := ⟨_, rfl⟩; have hz9 : w9.heap.size = m + 2 := by rw [← hw9, World.size_alloc, hz8]
       have hC9 := Lib.hid (hC8.out.alloc hC8.out.size (.cells #[.string ((⟨#[71, 69, 84, 32]⟩ : ByteArray) ++ ⟨path.toArray⟩ ++ ⟨#[32, 72, 84, 84, 80, 47, 49, 46, 49]⟩), .slice (some ⟨m, 0, none⟩) 2 2] 28)); rw [hw9] at hC9
       have k9 : Has w9 (m + 1) 28 #[.string ((⟨#[71, 69, 84, 32]⟩ : ByteArray) ++ ⟨path.toArray⟩ ++ ⟨#[32, 72, 84, 84, 80, 47, 49, 46, 49]⟩), .slice (some ⟨m, 0, none⟩) 2 2] := by rw [← hw9, ← hz8]; exact Has.new _ _ _
       have hd9 := Lib.hid (hd8.out.below (hw9 ▸ (Below.refl _ _).alloc (Nat.le_refl _) _))
       have z9 := z0'.out.below hC9.out z0'.out.lt
       have f0 := z9.free 0; have f1 := z9.free 1; have g0 := z9.cell 0; have g1 := z9.cell 1; have q0 := k9.cell 0; have q1 := k9.cell 1; have p0 := k9.free 0; have p1 := k9.free 1; have z9' := Lib.hid z9; have k9' := Lib.hid k9; clear z9 k9
       obtain ⟨w10, hw10⟩ : ∃ w10, w9.alloc (.cells #[.string ⟨#[108, 97, 115, 116, 45, 101, 118, 101, 110, 116, 45, 105, 100]⟩, .string ⟨id.toArray⟩] 56) = w10 := ⟨_, rfl⟩; have hC10 := Lib.hid (hC9.out.alloc hC9.out.size (.cells #[.string ⟨#[108, 97, 115, 116, 45, 101, 118, 101, 110, 116, 45, 105, 100]⟩, .string ⟨id.toArray⟩] 56)); rw [hw10] at hC10; have l10 : Hid (Has w10 (m + 2) 56 #[.string ⟨#[108, 97, 115, 116, 45, 101, 118, 101, 110, 116, 45, 105, 100]⟩, .string ⟨id.toArray⟩]) := Lib.hid (by rw [← hw10, ← hz9]; exact Has.new _ _ _); have hb10 := Lib.hid (show Below w9.heap.size w9 w10 from hw10 ▸ (Below.refl _ _).alloc (Nat.le_refl _) _); have hd10 := Lib.hid (hd9.out.below hb10.out); have k10 := Lib.hid (k9'.out.below hb10.out k9'.out.lt))
    | (at_builtin; refine wpList_append_hdr rfl _ _ rfl rfl hd10.out _ (Rr.lidL, id) rfl l10.out (by decide) (by have := hC10.out.size; omega) ?_; intro v11 w11 hd11 hg11; obtain ⟨A11, c11, e11, -⟩ := hd11.prs; have e11' : v11 = .slice A11 3 c11 := e11; clear e11; subst e11'; have hC11 := Lib.hid (hC10.out.grown hg11 hC10.out.size (fun g e => by have := (hd10.out.own g e).1; omega))
       have k11 : Has w11 (m + 1) 28 _ := grown_hdr k10.out hd10.out hg11 (by decide)
       have q10 := k11.cell 0; have q11 := k11.cell 1; have p10 := k11.free 0; have p11 := k11.free 1; have z11 := z0'.out.below hC11.out z0'.out.lt
       have kk := k11.put 1 (.slice A11 3 c11); have zz := z11.other (j := m + 1) (i := 1) (by have := hC5.out.size; omega) (.slice A11 3 c11)
       have r0 := kk.cell 0; have r1 := kk.cell 1; have f10 := zz.free 0; have f11 := zz.free 1; have g10 := zz.cell 0; have g11 := zz.cell 1; have zz' := Lib.hid zz; have hdz := Lib.hid (hd11.setT k11 (by decide) 1 (.slice A11 3 c11)); have hBz := Lib.hid ((show Below n w w11 by rw [← hn]; exact below_on hB1'.out hC11.out).setCell (p := ⟨m + 1, 1, none⟩) (by show n ≤ m + 1; have := hC5.out.size; omega) (.slice A11 3 c11))
       clear hd11 k11 z11 kk zz))
  obtain ⟨wz, hwz⟩ : ∃ wz, w11.setCell ⟨m + 1, 1, none⟩ (.slice A11 3 c11) = wz := ⟨_, rfl⟩
  rw [hwz] at zz' hdz hBz ⊢
  have kf := (zz'.out.put 0 (.string ((⟨#[71, 69, 84, 32]⟩ : ByteArray) ++ ⟨path.toArray⟩ ++ ⟨#[32, 72, 84, 84, 80, 47, 49, 46, 49]⟩))).put 1 (.slice A11 3 c11)
  have y0 := kf.cell 0
  have y1 := kf.cell 1
  simp at y0 y1
  refine bodyPost_ret (v := .tuple #[.agg #[.string ((⟨#[71, 69, 84, 32]⟩ : ByteArray) ++ ⟨path.toArray⟩ ++ ⟨#[32, 72, 84, 84, 80, 47, 49, 46, 49]⟩), (.slice A11 3 c11)], .int .i64 0]) (by simp [results, Tryz.results13, go_sem, y0, y1]) rfl ?_
  rw [cat_enc2]
  have hdf := (hdz.out.set (show n < n + 1 by omega) 0 (.string ((⟨#[71, 69, 84, 32]⟩ : ByteArray) ++ ⟨path.toArray⟩ ++ ⟨#[32, 72, 84, 84, 80, 47, 49, 46, 49]⟩))).set (show n < n + 1 by omega) 1 (.slice A11 3 c11)
  rw [cat_enc2] at hdf
  obtain ⟨A9, c9, e9, hpf⟩ := hdf.prs
  rw [hfl.out]
  exact ⟨⟨_, _, rfl, by injection e9 with e1 _ _; subst e1; exact hpf⟩, (hBz.out.setCell (p := ⟨n, 0, none⟩) (Nat.le_refl n) _).setCell (p := ⟨n, 1, none⟩) (Nat.le_refl n) _⟩
end Go.Proofs.YtbmemkbfignlaaaGreatDoor

namespace Go.Proofs.YtbmemkbfignlaaaGreatDoor
open Go.RowKit Go.Shelf
attribute [local go_sem] Oper.semAt_some

/-! ## Two heads of one text are the same -/
theorem refEnc_any (path id : List UInt8) (w : World) (hl : path.length ≤ 100) (hli : id.length ≤ 100) : Calls Tryz.prog 13 #[.string ⟨path.toArray⟩, .string ⟨id.toArray⟩] w (EncE path id w) := by
  cases hb : askB path id with
  | false => exact refEnc_no path id w hl hli hb
  | true =>
    have hb' := hb
    unfold askB at hb'
    rw [Bool.and_eq_true] at hb'
    obtain ⟨t, hp⟩ := Option.isSome_iff_exists.1 hb'.1
    by_cases hi : id = []
    · exact refEnc_none path id t w hl hli hp hb'.2 hi
    · exact refEnc_some path id t w hl hli hp hb'.2 hi
theorem hdr_litsB (x : PairL) (h1 : x.1.length ≤ 281474976710656) (h2 : x.2.length ≤ 281474976710656) : Tryz.prog.keyLits 2 56 [.string ⟨x.1.toArray⟩, .string ⟨x.2.toArray⟩] = some [.string x.1, .string x.2] := by
  have k1 : Tryz.prog.cellsOf 9 = 1 := by kernel_rfl
  have k2 : Tryz.prog.cellsOf 56 = 2 := by kernel_rfl
  have z : ∀ a : List UInt8, a.length ≤ 281474976710656 → (⟨a.toArray⟩ : ByteArray).size ≤ maxLen := fun a ha => by
    show a.toArray.size ≤ _
    simp [maxLen]; omega
  have z1 := z _ h1
  have z2 := z _ h2
  simp [Program.keyLits, Tryz.underlying56, Tryz.underlying9, k1, k2, z1, z2]
theorem hdr_equal (x : PairL) (hx : x.1.length ≤ 281474976710656 ∧ x.2.length ≤ 281474976710656) (w : World) :
    (Op.equalIn 10000 56 (.agg #[.string ⟨x.1.toArray⟩, .string ⟨x.2.toArray⟩]) (.agg #[.string ⟨x.1.toArray⟩, .string ⟨x.2.toArray⟩])).run Tryz.prog w = .ok true w := by
  obtain ⟨r, hr, hiff⟩ := run_equalIn_deep (P := Tryz.prog) 9998 2 56 (by kernel_rfl) w 2 2 (.agg #[.string ⟨x.1.toArray⟩, .string ⟨x.2.toArray⟩]) (.agg #[.string ⟨x.1.toArray⟩, .string ⟨x.2.toArray⟩]) _ _ (by kernel_rfl) (by kernel_rfl) (hdr_litsB x hx.1 hx.2) (hdr_litsB x hx.1 hx.2)
  rw [hr]
  have : r = true := hiff.2 rfl
  rw [this]
set_option maxRecDepth 100000 in
set_option maxHeartbeats 8000000 in
theorem same10_yes (f : List UInt8) (A B : Option Addr) (c d : Nat) (l : List PairL) (w : World) (hl : l.length ≤ 5) (hq : ∀ q ∈ l, q.1.length ≤ 1000 ∧ q.2.length ≤ 1000) (h1 : Prs w A l) (h2 : Prs w B l) :
    Calls Tryz.prog 14 #[.agg #[.string ⟨f.toArray⟩, .slice A l.length c], .agg #[.string ⟨f.toArray⟩, .slice B l.length d]] w (BoolR true w) := by
  unfold BoolR
  have hka := (Has.new w 28 #[.string ⟨f.toArray⟩, .slice A l.length c]).alloc (.cells #[.string ⟨f.toArray⟩, .slice B l.length d] 28)
  have hkb := Has.new (w.alloc (.cells #[.string ⟨f.toArray⟩, .slice A l.length c] 28)) 28 #[.string ⟨f.toArray⟩, .slice B l.length d]
  rw [World.size_alloc] at hkb
  have hal := ((Below.refl w.heap.size w).alloc (Nat.le_refl _) (.cells #[.string ⟨f.toArray⟩, .slice A l.length c] 28)).alloc (by simp) (.cells #[.string ⟨f.toArray⟩, .slice B l.length d] 28)
  obtain ⟨w1, hw1⟩ : ∃ X, (w.alloc (.cells #[.string ⟨f.toArray⟩, .slice A l.length c] 28)).alloc (.cells #[.string ⟨f.toArray⟩, .slice B l.length d] 28) = X := ⟨_, rfl⟩
  rw [hw1] at hka hkb hal
  have hw1' := Lib.hid hw1
  have hal' := Lib.hid hal
  have hx1 := Lib.hid (h1.below hal)
  have hx2 := Lib.hid (h2.below hal)
  have a0 : ∀ m, (w1.drewN m).cell? ⟨w.heap.size, 0, none⟩ = some (.string ⟨f.toArray⟩) := fun m => (hka.drewN m).cell 0
  have a1 : ∀ m, (w1.drewN m).cell? ⟨w.heap.size, 1, none⟩ = some (.slice A l.length c) := fun m => (hka.drewN m).cell 1
  have b0 : ∀ m, (w1.drewN m).cell? ⟨w.heap.size + 1, 0, none⟩ = some (.string ⟨f.toArray⟩) := fun m => (hkb.drewN m).cell 0
  have b1 : ∀ m, (w1.drewN m).cell? ⟨w.heap.size + 1, 1, none⟩ = some (.slice B l.length d) := fun m => (hkb.drewN m).cell 1
  have x0 : w1.cell? ⟨w.heap.size, 0, none⟩ = some (.string ⟨f.toArray⟩) := a0 0
  have x1 : w1.cell? ⟨w.heap.size, 1, none⟩ = some (.slice A l.length c) := a1 0
  have y0 : w1.cell? ⟨w.heap.size + 1, 0, none⟩ = some (.string ⟨f.toArray⟩) := b0 0
  have y1 : w1.cell? ⟨w.heap.size + 1, 1, none⟩ = some (.slice B l.length d) := b1 0
  have hql1 := Lib.hid hq
  clear hw1 hka hkb hal h1 h2 hq
  go_enter Tryz.func14, Tryz.ntmps14
  go_upto_region 1 with (fail)
  rw [hw1'.out]
  go_wp2
  clear x0 x1 y0 y1
  go_loopw [5] (fun x W => ∃ k : Nat, k ≤ l.length ∧ x = .int .i64 (k : Int) ∧ ∃ q, W = w1.drewN q) (fun x _ => l.length - (intOf x).toNat)
  case atStart => exact ⟨0, Nat.zero_le _, rfl, 0, rfl⟩
  case round =>
    obtain ⟨k, hk, rfl, n, rfl⟩ := hrel
    by_cases hlt : k < l.length
    · have hltI : (k : Int) < (l.length : Int) := by omega
      obtain ⟨b, o, hA, _, hc⟩ := hx1.out (by omega)
      subst hA
      obtain ⟨b', o', hA, _, hc'⟩ := hx2.out (by omega)
      subst hA
      obtain ⟨j1, j2⟩ := hc k _ (List.getElem?_eq_getElem hlt)
      obtain ⟨j3, j4⟩ := hc' k _ (List.getElem?_eq_getElem hlt)
      have m1 : ∀ m, (w1.drewN m).cell? ⟨b, o + k * 2, none⟩ = some (.string ⟨l[k].1.toArray⟩) := fun m => j1
      have m2 : ∀ m, (w1.drewN m).cell? ⟨b, o + k * 2 + 1, none⟩ = some (.string ⟨l[k].2.toArray⟩) := fun m => j2
      have m3 : ∀ m, (w1.drewN m).cell? ⟨b', o' + k * 2, none⟩ = some (.string ⟨l[k].1.toArray⟩) := fun m => j3
      have m4 : ∀ m, (w1.drewN m).cell? ⟨b', o' + k * 2 + 1, none⟩ = some (.string ⟨l[k].2.toArray⟩) := fun m => j4
      have hs1 := hql1.out _ (List.getElem_mem hlt)
      clear hc hc' j1 j2 j3 j4
      generalize l[k] = s1 at *
      have heq := fun W => hdr_equal s1 ⟨by omega, by omega⟩ W
      go_wp2
      go_quiet (fail)
      go_wp2
      exact ⟨⟨k + 1, by omega, by go_num, _, rfl⟩, by simp [intOf]; omega⟩
    · obtain rfl : k = l.length := by omega
      clear hx1 hx2
      go_wp2
      go_ret
      exact ⟨rfl, below_draws hal'.out _⟩
end Go.Proofs.YtbmemkbfignlaaaGreatDoor

namespace Go.Proofs.YtbmemkbfignlaaaGreatDoor
open Go.RowKit Go.Shelf
attribute [local go_sem] Oper.semAt_some wide_fn wide_depth wide_round

/-! ## A head that may be, in the document's words -/
theorem cat_x (f : List UInt8) : ((⟨#[120]⟩ : ByteArray) ++ ⟨f.toArray⟩ ++ ⟨#[120]⟩) = ⟨(120 :: (f ++ [120])).toArray⟩ := by
  show (⟨([120] : List UInt8).toArray⟩ : ByteArray) ++ ⟨f.toArray⟩ ++ ⟨([120] : List UInt8).toArray⟩ = _
  rw [app_str, app_str]
  simp
set_option maxRecDepth 100000 in
set_option maxHeartbeats 8000000 in
theorem right10_yes (x : UInt8) (r : List UInt8) (A : Option Addr) (c : Nat) (l : List PairL) (w : World) (hf : (x :: r).length ≤ 900000) (hl : l.length ≤ 1000) (hq : ∀ q ∈ l, q.1.length ≤ 100000 ∧ q.2.length ≤ 100000) (hx : Prs w A l) (h9 : x ≠ 9) (h32 : x ≠ 32) (hvf : valueL (120 :: ((x :: r) ++ [120])) = true) (hh3 : l.all Rr.fieldB = true) :
    Calls Tryz.prog 17 #[.agg #[.string ⟨(x :: r).toArray⟩, .slice A l.length c]] w (BoolR true w) := by
  obtain ⟨n, hn⟩ : ∃ n, w.heap.size = n := ⟨_, rfl⟩
  unfold BoolR
  obtain ⟨w1, hw1⟩ : ∃ w1, w.alloc (.cells #[.string ⟨(x :: r).toArray⟩, .slice A l.length c] 28) = w1 := ⟨_, rfl⟩
  have hB1 : Below w.heap.size w w1 := by rw [← hw1]; exact (Below.refl _ _).alloc (Nat.le_refl _) _
  have z0 : Has w1 n 28 #[.string ⟨(x :: r).toArray⟩, .slice A l.length c] := by rw [← hw1, ← hn]; exact Has.new _ _ _
  have c0 := z0.cell 0
  have c1 := z0.cell 1
  have hv0 := Lib.hid (refValue_any (120 :: ((x :: r) ++ [120])) w1 (by simp at hf ⊢; omega))
  rw [hvf] at hv0
  rw [← cat_x] at hv0
  have hB1' := Lib.hid hB1
  have hx1 := Lib.hid (hx.below hB1)
  have hq' := Lib.hid hq
  have hh3' := Lib.hid hh3
  have z0' := Lib.hid z0
  have hli : (l.length : Int) ≤ 1000 := by omega
  have hr : r.length ≤ 900000 := by simp at hf; omega
  have hg : ∀ h, (⟨(x :: r).toArray⟩ : ByteArray)[0]'h = x := fun h => rfl
  have h9n : ¬ x.toNat = 9 := fun h => h9 (UInt8.toNat_inj.1 h)
  have h32n : ¬ x.toNat = 32 := fun h => h32 (UInt8.toNat_inj.1 h)
  have h9' : ((x.toNat : Int) == 9) = false := by rw [beq_eq_false_iff_ne]; omega
  have h32' : ((x.toNat : Int) == 32) = false := by rw [beq_eq_false_iff_ne]; omega
  clear hB1 z0 hx hq hh3 hvf
  go_enter Tryz.func17, Tryz.ntmps17
  go_upto_region 3 with (go_at_call 35; (with_reducible refine Calls.mono hv0.out ?_); rintro e w7 ⟨rfl, hw7⟩; obtain rfl := hw7.symm)
  clear hg h9n h32n h9' h32' hr hv0 h9 h32
  go_wp2
  go_loopw [3, 4] (fun x _ W => ∃ k : Nat, k ≤ l.length ∧ x = .int .i64 (k : Int) ∧ Below w1.heap.size w1 W) (fun x _ _ => l.length - (intOf x).toNat)

  case atStart => exact ⟨0, Nat.zero_le _, rfl, Below.refl _ _⟩
  case round =>
    obtain ⟨k, hk, rfl, hbr⟩ := hrel
    have zr := z0'.out.below hbr z0'.out.lt
    have c10 := zr.cell 0
    have c11 := zr.cell 1
    by_cases hlt : k < l.length
    · have hltI : (k : Int) < (l.length : Int) := by omega
      obtain ⟨b, o, rfl, hbl, hcs⟩ := (hx1.out.below hbr) (by omega)
      obtain ⟨q, hqk⟩ : ∃ q, l[k] = q := ⟨_, rfl⟩
      obtain ⟨d0, d1⟩ := hcs k q (by rw [List.getElem?_eq_getElem hlt, hqk])
      have hql := hq'.out q (by rw [← hqk]; exact List.getElem_mem hlt)
      have hfb : Rr.fieldB q = true := List.all_eq_true.1 hh3'.out q (by rw [← hqk]; exact List.getElem_mem hlt)
      unfold Rr.fieldB at hfb
      rw [Bool.and_eq_true, Bool.and_eq_true] at hfb
      obtain ⟨⟨ht, hlo⟩, hv⟩ := hfb
      have hlo : lowerL q.1 = q.1 := beq_iff_eq.1 hlo
      clear hcs hqk
      obtain ⟨q1, q2⟩ := q
      simp only at d0 d1 hql ht hlo hv
      have hnw := Has.new wr 56 #[.string ⟨q1.toArray⟩, .string ⟨q2.toArray⟩]
      have hbw := (Below.refl wr.heap.size wr).alloc (Nat.le_refl _) (.cells #[.string ⟨q1.toArray⟩, .string ⟨q2.toArray⟩] 56)
      obtain ⟨w4, hw4⟩ : ∃ w4, wr.alloc (.cells #[.string ⟨q1.toArray⟩, .string ⟨q2.toArray⟩] 56) = w4 := ⟨_, rfl⟩
      rw [hw4] at hnw hbw
      have x0 := fun (V' : Grown w4) => (hnw.below V'.below hnw.lt).cell 0
      have x1 := fun (V' : Grown w4) => (hnw.below V'.below hnw.lt).cell 1
      have t1 := Lib.hid (fun (V' : Grown w4) => callsIn_wide (n := 5 - 1).2 (grow_call V' (show Calls Tryz.prog 41 #[.string ⟨q1.toArray⟩] V'.v fun e w' => e = .returned (.bool true) ∧ Below V'.v.heap.size V'.v w' from (refToken_any q1 V'.v (by omega)).mono fun e w' ⟨h1, h2⟩ => ⟨by rw [h1, ht], by rw [h2]; exact Below.refl _ _⟩)))
      have t2 := Lib.hid (fun (V' : Grown w4) => callsIn_wide (n := 5 - 1).2 (grow_call V' (show Calls Tryz.prog 25 #[.string ⟨q1.toArray⟩] V'.v fun e w' => e = .returned (.string ⟨q1.toArray⟩) ∧ Below V'.v.heap.size V'.v w' from by have := refLower_any q1 V'.v (by omega); rw [hlo] at this; exact this)))
      have t3 := Lib.hid (fun (V' : Grown w4) => callsIn_wide (n := 5 - 1).2 (grow_call V' (show Calls Tryz.prog 35 #[.string ⟨q2.toArray⟩] V'.v fun e w' => e = .returned (.bool true) ∧ Below V'.v.heap.size V'.v w' from (refValue_any q2 V'.v (by omega)).mono fun e w' ⟨h1, h2⟩ => ⟨by rw [h1, hv], by rw [h2]; exact Below.refl _ _⟩)))
      have hbw' := Lib.hid hbw
      have hbr' := Lib.hid hbr
      have hw4' := Lib.hid hw4
      clear hnw hbw hbr hw4 ht hlo hv zr
      go_upto_region 7 with (fail)
      rw [hw4'.out]
      refine (wpIn_wide (n := 5)).1 ?_
      refine wpIn_region_grow (by kernel_rfl) (by kernel_rfl) (by kernel_rfl) ?_
      try dsimp only
      iterate 18 (gi_big_quiet_step (first
        | (gi_at_call 41; exact t1.out _)
        | (gi_at_call 25; exact t2.out _)
        | (gi_at_call 35; exact t3.out _)))
      refine wpQuietIn_nil ?_
      intro _ hw'
      obtain ⟨V', hw''⟩ := hw'
      subst hw''
      have hbV := Lib.hid V'.below
      go_wp2
      exact ⟨⟨k + 1, by omega, by go_num, below_on (below_on hbr'.out hbw'.out) hbV.out⟩, by simp [intOf]; omega⟩
    · obtain rfl : k = l.length := by omega
      have hbr' := Lib.hid hbr
      clear hbr zr
      go_wp2
      go_ret
      exact ⟨rfl, below_on hB1'.out hbr'.out⟩
end Go.Proofs.YtbmemkbfignlaaaGreatDoor

namespace Go.Proofs.YtbmemkbfignlaaaGreatDoor
open Go.RowKit Go.Shelf
attribute [local go_sem] Oper.semAt_some

/-! ## RequestHolds -/
theorem encFew (path id : List UInt8) (hl : path.length ≤ 100) (hli : id.length ≤ 100) : FewHd (Rr.encF path) (Rr.encFl id) := by
  refine ⟨?_, ?_, ?_⟩
  · simp [Rr.encF, Rr.preL, Rr.postL]; omega
  · unfold Rr.encFl; split <;> simp
  · intro q hq
    unfold Rr.encFl at hq
    split at hq
    · simp only [List.mem_cons, List.not_mem_nil, or_false] at hq
      rcases hq with rfl | rfl <;> exact ⟨by decide, by decide⟩
    · simp only [List.mem_cons, List.not_mem_nil, or_false] at hq
      rcases hq with rfl | rfl | rfl
      · exact ⟨by decide, by decide⟩
      · exact ⟨by decide, by decide⟩
      · exact ⟨by show Rr.lidL.length ≤ 1000; decide, by simp only; omega⟩
theorem right10_enc (path id : List UInt8) (t : TgL) (A : Option Addr) (c : Nat) (w : World) (hp : parseTg path = some t) (hv : valueL id = true) (hl : path.length ≤ 100) (hli : id.length ≤ 100) (hx : Prs w A (Rr.encFl id)) : Calls Tryz.prog 17 #[.agg #[.string ⟨(Rr.encF path).toArray⟩, .slice A (Rr.encFl id).length c]] w (BoolR true w) := by
  have hF := encFew path id hl hli
  have hh := Rr.enc_head hp hv
  unfold Rr.headB at hh
  rw [Bool.and_eq_true] at hh
  have hb := Rr.parse_bytes hp
  have hm : path.all valB = true := List.all_eq_true.2 fun b h => Rr.valB_of ⟨by have := hb b h; omega, by have := hb b h; omega⟩
  have hv := Rr.valueL_mid (a := Rr.preL) (m := path) (z := Rr.postL) (x := 120) (y := 120) (by decide +kernel) hm (by decide +kernel) (by decide +kernel) (by decide +kernel) (by decide +kernel) (by decide +kernel)
  have he : Rr.encF path = 71 :: ([69, 84, 32] ++ path ++ Rr.postL) := rfl
  rw [he]
  refine right10_yes 71 _ A c _ w (by rw [← he]; have := hF.first; omega) (by have := hF.many; omega) (fun q hq => by have := hF.each q hq; omega) hx (by decide) (by decide) ?_ hh.2
  rw [← he]
  exact hv
theorem of_enc (path id : List UInt8) (t : TgL) (A : Option Addr) (c : Nat) (w : World) (hT : TabT w) (hp : parseTg path = some t) (hv : valueL id = true) (hl : path.length ≤ 100) (hli : id.length ≤ 100) (hx : Prs w A (Rr.encFl id)) : Calls Tryz.prog 16 #[.agg #[.string ⟨(Rr.encF path).toArray⟩, .slice A (Rr.encFl id).length c]] w fun e w' =>
    (∃ A1 n1 c1 A2 n2 c2, e = .returned (.tuple #[.agg #[.string ⟨Rr.getL.toArray⟩, .slice A1 n1 c1, .slice A2 n2 c2, .bool false, .bool (!(id == [])), .bool false, .string ⟨id.toArray⟩], .int .i64 200, .int .i64 0])) ∧ Below w.heap.size w w' := by
  have h := of_yes (Rr.encF path) A c (Rr.encFl id) w hT (encFew path id hl hli) hx (Rr.enc_head hp hv) (Rr.enc_status hp) (by rw [Rr.enc_look hp]; show (Rr.newerL == Rr.olderL) = false; decide) (Rr.vals_conn id)
  unfold rqV at h
  rw [Rr.enc_look hp, Rr.vals_lid] at h
  refine h.mono fun e w' ⟨⟨A1, c1, A2, c2, h, _, _⟩, hb⟩ => ⟨⟨A1, t.1.length, c1, A2, t.2.length, c2, ?_⟩, hb⟩
  rw [h]
  by_cases hi : id = []
  · subst hi; rfl
  · rw [if_neg hi, show (id == []) = false by cases id <;> simp_all]
    rfl
set_option maxRecDepth 100000 in
set_option maxHeartbeats 8000000 in
theorem holds_far (path id : List UInt8) (w : World) (hT : TabT w) (hl : ¬ (path.length ≤ 100 ∧ id.length ≤ 100)) : Calls Tryz.prog 5 #[.string ⟨path.toArray⟩, .string ⟨id.toArray⟩] w (BoolR true w) := by
  unfold BoolR
  have hwk := Lib.hid (fun W (hW : Below w.heap.size w W) => works13_any W (hT.below hW))
  have hB0 := Lib.hid (Below.refl w.heap.size w)
  by_cases h1 : path.length ≤ 100
  · have hI : ¬ (100 : Int) < (path.length : Int) := by omega
    have hJ : (100 : Int) < (id.length : Int) := by omega
    clear hT hl
    go_enter Tryz.func5, Tryz.ntmps5
    go_wp2_with (go_at_call 6; (with_reducible refine Calls.mono (hwk.out _ hB0.out) ?_); rintro e w9 ⟨rfl, hb9⟩; have hb9' := Lib.hid hb9; clear hb9)
    go_ret
    exact ⟨rfl, hb9'.out⟩
  · have hI : (100 : Int) < (path.length : Int) := by omega
    clear hT hl
    go_enter Tryz.func5, Tryz.ntmps5
    go_wp2_with (go_at_call 6; (with_reducible refine Calls.mono (hwk.out _ hB0.out) ?_); rintro e w9 ⟨rfl, hb9⟩; have hb9' := Lib.hid hb9; clear hb9)
    go_ret
    exact ⟨rfl, hb9'.out⟩
set_option maxRecDepth 100000 in
set_option maxHeartbeats 8000000 in
theorem holds_no (path id : List UInt8) (w : World) (hT : TabT w) (hl : path.length ≤ 100) (hli : id.length ≤ 100) (hb : askB path id = false) : Calls Tryz.prog 5 #[.string ⟨path.toArray⟩, .string ⟨id.toArray⟩] w (BoolR true w) := by
  unfold BoolR
  have hwk := Lib.hid (fun W (hW : Below w.heap.size w W) => works13_any W (hT.below hW))
  have hnum := Lib.hid (fun n W => num13_any n W)
  have he := Lib.hid (encode_any path id w hT hl hli)
  have hr := Lib.hid (fun W => refEnc_any path id W hl hli)
  unfold EncE encF' encL' at he hr
  rw [hb] at he hr
  simp only [Bool.false_eq_true, if_false] at he hr
  have hI : ¬ (100 : Int) < (path.length : Int) := by omega
  have hJ : ¬ (100 : Int) < (id.length : Int) := by omega
  obtain ⟨f, hf⟩ : ∃ f : List UInt8, [] = f := ⟨_, rfl⟩
  obtain ⟨l, hll⟩ : ∃ l : List PairL, [] = l := ⟨_, rfl⟩
  rw [hf, hll] at he hr
  have hsm := Lib.hid (fun A B c d W h1 h2 => same10_yes f A B c d l W (by rw [← hll]; simp) (by rw [← hll]; simp) h1 h2)
  unfold BoolR at hsm
  clear hT hl hli hb
  clear hf hll
  go_enter Tryz.func5, Tryz.ntmps5
  go_wp2_with (first
    | (go_at_call 12; go_loud ((with_reducible refine Calls.mono (he.out) ?_); rintro e w3 ⟨⟨A1, c1, rfl, hpw3⟩, hbw3⟩; have hqw3 := Lib.hid hpw3; obtain ⟨m, hm⟩ : ∃ m, w3.heap.size = m := ⟨_, rfl⟩; obtain ⟨w4, hw4⟩ : ∃ w4, w3.alloc (.cells #[.string ⟨f.toArray⟩, .slice A1 l.length c1] 28) = w4 := ⟨_, rfl⟩; have bw4 := Lib.hid (show Below w3.heap.size w3 w4 from hw4 ▸ (Below.refl _ _).alloc (Nat.le_refl _) _); have zw4 : Hid (Has w4 m 28 #[.string ⟨f.toArray⟩, .slice A1 l.length c1]) := Lib.hid (hw4 ▸ hm ▸ Has.new _ _ _); have hsw4 : w4.heap.size = m + 1 := hw4 ▸ hm ▸ World.size_alloc _ _; have hBw4 := Lib.hid (below_on (Below.refl w.heap.size w) (below_on hbw3 bw4.out)); have hPw4 := Lib.hid (hqw3.out.below bw4.out)))
    | (go_at_call 13; go_loud ((with_reducible refine Calls.mono (hr.out _) ?_); rintro e w5 ⟨⟨A2, c2, rfl, hpw5⟩, hbw5⟩; have hqw5 := Lib.hid hpw5; obtain ⟨k, hk⟩ : ∃ k, w5.heap.size = k := ⟨_, rfl⟩; obtain ⟨w6, hw6⟩ : ∃ w6, w5.alloc (.cells #[.string ⟨f.toArray⟩, .slice A2 l.length c2] 28) = w6 := ⟨_, rfl⟩; have bw6 := Lib.hid (show Below w5.heap.size w5 w6 from hw6 ▸ (Below.refl _ _).alloc (Nat.le_refl _) _); have zw6 : Hid (Has w6 k 28 #[.string ⟨f.toArray⟩, .slice A2 l.length c2]) := Lib.hid (hw6 ▸ hk ▸ Has.new _ _ _); have hsw6 : w6.heap.size = k + 1 := hw6 ▸ hk ▸ World.size_alloc _ _; have hBw6 := Lib.hid (below_on (hBw4.out) (below_on hbw5 bw6.out)); have hPw6 := Lib.hid (hqw5.out.below bw6.out); have hP46 := Lib.hid ((hPw4.out.below hbw5).below bw6.out); have z46 := ((zw4.out.below hbw5 zw4.out.lt).below bw6.out (by have := hbw5.size; omega)); have zz6 := zw6.out; have p0 := z46.cell 0; have p1 := z46.cell 1; have q0 := zz6.cell 0; have q1 := zz6.cell 1; have z46' := Lib.hid z46; have hmk := Lib.hid (show m < k by have := hbw5.size; omega); clear hbw5 z46 zz6))
    | (go_at_call 14; go_loud ((with_reducible refine Calls.mono (hsm.out _ _ _ _ _ hP46.out hPw6.out) ?_); rintro e w7 ⟨rfl, hb7⟩; have hB7 := Lib.hid (below_on hBw6.out hb7); have z7 := z46'.out.below hb7 z46'.out.lt; have r0 := z7.cell 0; have r1 := z7.cell 1; have z7' := Lib.hid z7; have hP7 := Lib.hid (hP46.out.below hb7); clear hb7 z7))
    | (go_at_call 15; (with_reducible refine Calls.mono (hnum.out _ _) ?_); rintro e w9 ⟨rfl, hw9⟩; obtain rfl := hw9.symm)
    | (go_at_call 6; (with_reducible refine Calls.mono (hwk.out _ hB7.out) ?_); rintro e w9 ⟨rfl, hb9⟩; have hb9' := Lib.hid (below_on hB7.out hb9); clear hb9))
  go_ret
  exact ⟨rfl, hb9'.out⟩
set_option maxRecDepth 100000 in
set_option maxHeartbeats 8000000 in
theorem holds_none (path id : List UInt8) (w : World) (hT : TabT w) (hl : path.length ≤ 100) (hli : id.length ≤ 100) (hb : askB path id = true) (hi : id = []) : Calls Tryz.prog 5 #[.string ⟨path.toArray⟩, .string ⟨id.toArray⟩] w (BoolR true w) := by
  unfold BoolR
  have hwk := Lib.hid (fun W (hW : Below w.heap.size w W) => works13_any W (hT.below hW))
  have hnum := Lib.hid (fun n W => num13_any n W)
  have he := Lib.hid (encode_any path id w hT hl hli)
  have hr := Lib.hid (fun W => refEnc_any path id W hl hli)
  unfold EncE encF' encL' at he hr
  rw [hb] at he hr
  simp only [if_true] at he hr
  have hI : ¬ (100 : Int) < (path.length : Int) := by omega
  have hJ : ¬ (100 : Int) < (id.length : Int) := by omega
  have hb' := hb
  unfold askB at hb'
  rw [Bool.and_eq_true] at hb'
  obtain ⟨t, hp⟩ := Option.isSome_iff_exists.1 hb'.1
  have hF := encFew path id hl hli
  have hof := Lib.hid (fun A c W hW h => of_enc path id t A c W (hT.below hW) hp hb'.2 hl hli h)
  have hne : (id == []) = true := by cases id <;> simp_all
  rw [hne] at hof
  simp only [Bool.not_true, Bool.not_false] at hof
  have hrt := Lib.hid (fun A c W h => right10_enc path id t A c W hp hb'.2 hl hli h)
  have hsm := Lib.hid (fun A B c d W h1 h2 => same10_yes (Rr.encF path) A B c d (Rr.encFl id) W hF.many hF.each h1 h2)
  unfold BoolR at hsm hrt
  generalize Rr.encF path = f at *
  generalize Rr.encFl id = l at *
  clear hT hl hli hb hi
  clear hb' hp hF
  go_enter Tryz.func5, Tryz.ntmps5
  go_wp2_with (first
    | (go_at_call 12; go_loud ((with_reducible refine Calls.mono (he.out) ?_); rintro e w3 ⟨⟨A1, c1, rfl, hpw3⟩, hbw3⟩; have hqw3 := Lib.hid hpw3; obtain ⟨m, hm⟩ : ∃ m, w3.heap.size = m := ⟨_, rfl⟩; obtain ⟨w4, hw4⟩ : ∃ w4, w3.alloc (.cells #[.string ⟨f.toArray⟩, .slice A1 l.length c1] 28) = w4 := ⟨_, rfl⟩; have bw4 := Lib.hid (show Below w3.heap.size w3 w4 from hw4 ▸ (Below.refl _ _).alloc (Nat.le_refl _) _); have zw4 : Hid (Has w4 m 28 #[.string ⟨f.toArray⟩, .slice A1 l.length c1]) := Lib.hid (hw4 ▸ hm ▸ Has.new _ _ _); have hsw4 : w4.heap.size = m + 1 := hw4 ▸ hm ▸ World.size_alloc _ _; have hBw4 := Lib.hid (below_on (Below.refl w.heap.size w) (below_on hbw3 bw4.out)); have hPw4 := Lib.hid (hqw3.out.below bw4.out)))
    | (go_at_call 13; go_loud ((with_reducible refine Calls.mono (hr.out _) ?_); rintro e w5 ⟨⟨A2, c2, rfl, hpw5⟩, hbw5⟩; have hqw5 := Lib.hid hpw5; obtain ⟨k, hk⟩ : ∃ k, w5.heap.size = k := ⟨_, rfl⟩; obtain ⟨w6, hw6⟩ : ∃ w6, w5.alloc (.cells #[.string ⟨f.toArray⟩, .slice A2 l.length c2] 28) = w6 := ⟨_, rfl⟩; have bw6 := Lib.hid (show Below w5.heap.size w5 w6 from hw6 ▸ (Below.refl _ _).alloc (Nat.le_refl _) _); have zw6 : Hid (Has w6 k 28 #[.string ⟨f.toArray⟩, .slice A2 l.length c2]) := Lib.hid (hw6 ▸ hk ▸ Has.new _ _ _); have hsw6 : w6.heap.size = k + 1 := hw6 ▸ hk ▸ World.size_alloc _ _; have hBw6 := Lib.hid (below_on (hBw4.out) (below_on hbw5 bw6.out)); have hPw6 := Lib.hid (hqw5.out.below bw6.out); have hP46 := Lib.hid ((hPw4.out.below hbw5).below bw6.out); have z46 := ((zw4.out.below hbw5 zw4.out.lt).below bw6.out (by have := hbw5.size; omega)); have zz6 := zw6.out; have p0 := z46.cell 0; have p1 := z46.cell 1; have q0 := zz6.cell 0; have q1 := zz6.cell 1; have z46' := Lib.hid z46; have hmk := Lib.hid (show m < k by have := hbw5.size; omega); clear hbw5 z46 zz6))
    | (go_at_call 14; go_loud ((with_reducible refine Calls.mono (hsm.out _ _ _ _ _ hP46.out hPw6.out) ?_); rintro e w7 ⟨rfl, hb7⟩; have hB7 := Lib.hid (below_on hBw6.out hb7); have z7 := z46'.out.below hb7 z46'.out.lt; have r0 := z7.cell 0; have r1 := z7.cell 1; have z7' := Lib.hid z7; have hP7 := Lib.hid (hP46.out.below hb7); clear hb7 z7))
    | (go_at_call 15; (with_reducible refine Calls.mono (hnum.out _ _) ?_); rintro e w9 ⟨rfl, hw9⟩; obtain rfl := hw9.symm)
    | (go_at_call 16; go_loud ((with_reducible refine Calls.mono (hof.out _ _ _ hB7.out hP7.out) ?_); rintro e w8 ⟨⟨A3, n3, c3, A4, n4, c4, rfl⟩, hb8⟩; obtain ⟨j, hj⟩ : ∃ j, w8.heap.size = j := ⟨_, rfl⟩; obtain ⟨w9, hw9'⟩ : ∃ w9, w8.alloc (.cells #[.string ⟨Rr.getL.toArray⟩, .slice A3 n3 c3, .slice A4 n4 c4, .bool false, .bool false, .bool false, .string ⟨id.toArray⟩] 34) = w9 := ⟨_, rfl⟩; have bw9 := Lib.hid (show Below w8.heap.size w8 w9 from hw9' ▸ (Below.refl _ _).alloc (Nat.le_refl _) _); have zr9 : Has w9 j 34 #[.string ⟨Rr.getL.toArray⟩, .slice A3 n3 c3, .slice A4 n4 c4, .bool false, .bool false, .bool false, .string ⟨id.toArray⟩] := hw9' ▸ hj ▸ Has.new _ _ _; have zm9 := (z7'.out.below hb8 z7'.out.lt).below bw9.out (by have := hb8.size; have := z7'.out.lt; omega); have s0 := zm9.cell 0; have s1 := zm9.cell 1; have d0 := zr9.cell 0; have d1 := zr9.cell 1; have d2 := zr9.cell 2; have d3 := zr9.cell 3; have d4 := zr9.cell 4; have d5 := zr9.cell 5; have d6 := zr9.cell 6; have hP9 := Lib.hid ((hP7.out.below hb8).below bw9.out); have hB9 := Lib.hid (below_on hB7.out (below_on hb8 bw9.out)); have zr9' := Lib.hid zr9; clear hb8 zr9 zm9))
    | (go_at_call 17; go_loud ((with_reducible refine Calls.mono (hrt.out _ _ _ hP9.out) ?_); rintro e w10 ⟨rfl, hb10⟩; have zr10 := zr9'.out.below hb10 zr9'.out.lt; have e0 := zr10.cell 0; have e1 := zr10.cell 1; have e2 := zr10.cell 2; have e3 := zr10.cell 3; have e4 := zr10.cell 4; have e5 := zr10.cell 5; have e6 := zr10.cell 6; have hB10 := Lib.hid (below_on hB9.out hb10); clear hb10 zr10))
    | (go_at_call 6; (with_reducible refine Calls.mono (hwk.out _ hB10.out) ?_); rintro e w9 ⟨rfl, hb9⟩; have hb9' := Lib.hid (below_on hB10.out hb9); clear hb9))
  go_ret
  exact ⟨rfl, hb9'.out⟩
set_option maxRecDepth 100000 in
set_option maxHeartbeats 8000000 in
theorem holds_some (path id : List UInt8) (w : World) (hT : TabT w) (hl : path.length ≤ 100) (hli : id.length ≤ 100) (hb : askB path id = true) (hi : id ≠ []) : Calls Tryz.prog 5 #[.string ⟨path.toArray⟩, .string ⟨id.toArray⟩] w (BoolR true w) := by
  unfold BoolR
  have hwk := Lib.hid (fun W (hW : Below w.heap.size w W) => works13_any W (hT.below hW))
  have hnum := Lib.hid (fun n W => num13_any n W)
  have he := Lib.hid (encode_any path id w hT hl hli)
  have hr := Lib.hid (fun W => refEnc_any path id W hl hli)
  unfold EncE encF' encL' at he hr
  rw [hb] at he hr
  simp only [if_true] at he hr
  have hI : ¬ (100 : Int) < (path.length : Int) := by omega
  have hJ : ¬ (100 : Int) < (id.length : Int) := by omega
  have hb' := hb
  unfold askB at hb'
  rw [Bool.and_eq_true] at hb'
  obtain ⟨t, hp⟩ := Option.isSome_iff_exists.1 hb'.1
  have hF := encFew path id hl hli
  have hof := Lib.hid (fun A c W hW h => of_enc path id t A c W (hT.below hW) hp hb'.2 hl hli h)
  have hne : (id == []) = false := by cases id <;> simp_all
  rw [hne] at hof
  simp only [Bool.not_true, Bool.not_false] at hof
  have hrt := Lib.hid (fun A c W h => right10_enc path id t A c W hp hb'.2 hl hli h)
  have hsm := Lib.hid (fun A B c d W h1 h2 => same10_yes (Rr.encF path) A B c d (Rr.encFl id) W hF.many hF.each h1 h2)
  unfold BoolR at hsm hrt
  generalize Rr.encF path = f at *
  generalize Rr.encFl id = l at *
  clear hT hl hli hb
  clear hb' hp hF
  go_enter Tryz.func5, Tryz.ntmps5
  go_wp2_with (first
    | (go_at_call 12; go_loud ((with_reducible refine Calls.mono (he.out) ?_); rintro e w3 ⟨⟨A1, c1, rfl, hpw3⟩, hbw3⟩; have hqw3 := Lib.hid hpw3; obtain ⟨m, hm⟩ : ∃ m, w3.heap.size = m := ⟨_, rfl⟩; obtain ⟨w4, hw4⟩ : ∃ w4, w3.alloc (.cells #[.string ⟨f.toArray⟩, .slice A1 l.length c1] 28) = w4 := ⟨_, rfl⟩; have bw4 := Lib.hid (show Below w3.heap.size w3 w4 from hw4 ▸ (Below.refl _ _).alloc (Nat.le_refl _) _); have zw4 : Hid (Has w4 m 28 #[.string ⟨f.toArray⟩, .slice A1 l.length c1]) := Lib.hid (hw4 ▸ hm ▸ Has.new _ _ _); have hsw4 : w4.heap.size = m + 1 := hw4 ▸ hm ▸ World.size_alloc _ _; have hBw4 := Lib.hid (below_on (Below.refl w.heap.size w) (below_on hbw3 bw4.out)); have hPw4 := Lib.hid (hqw3.out.below bw4.out)))
    | (go_at_call 13; go_loud ((with_reducible refine Calls.mono (hr.out _) ?_); rintro e w5 ⟨⟨A2, c2, rfl, hpw5⟩, hbw5⟩; have hqw5 := Lib.hid hpw5; obtain ⟨k, hk⟩ : ∃ k, w5.heap.size = k := ⟨_, rfl⟩; obtain ⟨w6, hw6⟩ : ∃ w6, w5.alloc (.cells #[.string ⟨f.toArray⟩, .slice A2 l.length c2] 28) = w6 := ⟨_, rfl⟩; have bw6 := Lib.hid (show Below w5.heap.size w5 w6 from hw6 ▸ (Below.refl _ _).alloc (Nat.le_refl _) _); have zw6 : Hid (Has w6 k 28 #[.string ⟨f.toArray⟩, .slice A2 l.length c2]) := Lib.hid (hw6 ▸ hk ▸ Has.new _ _ _); have hsw6 : w6.heap.size = k + 1 := hw6 ▸ hk ▸ World.size_alloc _ _; have hBw6 := Lib.hid (below_on (hBw4.out) (below_on hbw5 bw6.out)); have hPw6 := Lib.hid (hqw5.out.below bw6.out); have hP46 := Lib.hid ((hPw4.out.below hbw5).below bw6.out); have z46 := ((zw4.out.below hbw5 zw4.out.lt).below bw6.out (by have := hbw5.size; omega)); have zz6 := zw6.out; have p0 := z46.cell 0; have p1 := z46.cell 1; have q0 := zz6.cell 0; have q1 := zz6.cell 1; have z46' := Lib.hid z46; have hmk := Lib.hid (show m < k by have := hbw5.size; omega); clear hbw5 z46 zz6))
    | (go_at_call 14; go_loud ((with_reducible refine Calls.mono (hsm.out _ _ _ _ _ hP46.out hPw6.out) ?_); rintro e w7 ⟨rfl, hb7⟩; have hB7 := Lib.hid (below_on hBw6.out hb7); have z7 := z46'.out.below hb7 z46'.out.lt; have r0 := z7.cell 0; have r1 := z7.cell 1; have z7' := Lib.hid z7; have hP7 := Lib.hid (hP46.out.below hb7); clear hb7 z7))
    | (go_at_call 15; (with_reducible refine Calls.mono (hnum.out _ _) ?_); rintro e w9 ⟨rfl, hw9⟩; obtain rfl := hw9.symm)
    | (go_at_call 16; go_loud ((with_reducible refine Calls.mono (hof.out _ _ _ hB7.out hP7.out) ?_); rintro e w8 ⟨⟨A3, n3, c3, A4, n4, c4, rfl⟩, hb8⟩; obtain ⟨j, hj⟩ : ∃ j, w8.heap.size = j := ⟨_, rfl⟩; obtain ⟨w9, hw9'⟩ : ∃ w9, w8.alloc (.cells #[.string ⟨Rr.getL.toArray⟩, .slice A3 n3 c3, .slice A4 n4 c4, .bool false, .bool true, .bool false, .string ⟨id.toArray⟩] 34) = w9 := ⟨_, rfl⟩; have bw9 := Lib.hid (show Below w8.heap.size w8 w9 from hw9' ▸ (Below.refl _ _).alloc (Nat.le_refl _) _); have zr9 : Has w9 j 34 #[.string ⟨Rr.getL.toArray⟩, .slice A3 n3 c3, .slice A4 n4 c4, .bool false, .bool true, .bool false, .string ⟨id.toArray⟩] := hw9' ▸ hj ▸ Has.new _ _ _; have zm9 := (z7'.out.below hb8 z7'.out.lt).below bw9.out (by have := hb8.size; have := z7'.out.lt; omega); have s0 := zm9.cell 0; have s1 := zm9.cell 1; have d0 := zr9.cell 0; have d1 := zr9.cell 1; have d2 := zr9.cell 2; have d3 := zr9.cell 3; have d4 := zr9.cell 4; have d5 := zr9.cell 5; have d6 := zr9.cell 6; have hP9 := Lib.hid ((hP7.out.below hb8).below bw9.out); have hB9 := Lib.hid (below_on hB7.out (below_on hb8 bw9.out)); have zr9' := Lib.hid zr9; clear hb8 zr9 zm9))
    | (go_at_call 17; go_loud ((with_reducible refine Calls.mono (hrt.out _ _ _ hP9.out) ?_); rintro e w10 ⟨rfl, hb10⟩; have zr10 := zr9'.out.below hb10 zr9'.out.lt; have e0 := zr10.cell 0; have e1 := zr10.cell 1; have e2 := zr10.cell 2; have e3 := zr10.cell 3; have e4 := zr10.cell 4; have e5 := zr10.cell 5; have e6 := zr10.cell 6; have hB10 := Lib.hid (below_on hB9.out hb10); clear hb10 zr10))
    | (go_at_call 6; (with_reducible refine Calls.mono (hwk.out _ hB10.out) ?_); rintro e w9 ⟨rfl, hb9⟩; have hb9' := Lib.hid (below_on hB10.out hb9); clear hb9))
  go_ret
  exact ⟨rfl, hb9'.out⟩
theorem holds_law (path id : List UInt8) (w : World) (hT : TabT w) : Calls Tryz.prog 5 #[.string ⟨path.toArray⟩, .string ⟨id.toArray⟩] w (BoolR true w) := by
  by_cases hl : path.length ≤ 100 ∧ id.length ≤ 100
  · cases hb : askB path id with
    | false => exact holds_no path id w hT hl.1 hl.2 hb
    | true =>
      by_cases hi : id = []
      · exact holds_none path id w hT hl.1 hl.2 hb hi
      · exact holds_some path id w hT hl.1 hl.2 hb hi
  · exact holds_far path id w hT hl
end Go.Proofs.YtbmemkbfignlaaaGreatDoor
