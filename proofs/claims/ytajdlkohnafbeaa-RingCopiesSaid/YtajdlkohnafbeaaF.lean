import Derived.Test.YtajdlkohnafbeaaE
namespace Go.Proofs.Ytajdlkohnafbeaa
open Go.RowKit

/-! ## What is told of indices -/
def halfI (zs : List Int) (j : Nat) : Array Value := (ints (zs.take j) ++ List.replicate (zs.length - j) (Value.int .i64 0)).toArray
theorem halfI_none (zs : List Int) : madeCells #[.int .i64 0] zs.length = halfI zs 0 := by
  apply Array.ext
  · simp [madeCells, halfI, ints]
  · intro i h1 h2
    simp [madeCells, halfI, ints, Nat.mod_one]
theorem halfI_all (zs : List Int) : halfI zs zs.length = (ints zs).toArray := by simp [halfI]
theorem halfI_size {zs : List Int} {j : Nat} (h : j ≤ zs.length) : (halfI zs j).size = zs.length := by simp [halfI, ints_length]; omega
theorem halfI_set {zs : List Int} {j : Nat} (h : j < zs.length) : (halfI zs j).setIfInBounds j (.int .i64 zs[j]) = halfI zs (j + 1) := by
  apply Array.ext'
  unfold halfI
  rw [Array.toList_setIfInBounds]
  simp only
  have h1 : ints (zs.take (j + 1)) = ints (zs.take j) ++ [.int .i64 zs[j]] := by unfold ints; rw [List.take_succ_eq_append_getElem h, List.map_append]; rfl
  have h2 : zs.length - j = (zs.length - (j + 1)) + 1 := by omega
  have h3 : (ints (zs.take j)).length = j := by rw [ints_length, List.length_take]; omega
  rw [h1, h2, List.replicate_succ, List.set_append, if_neg (by omega), h3, Nat.sub_self]
  simp
def ToldOf (zs : List Int) (n : Nat) (w : World) (e : Ending) (w' : World) : Prop :=
  ∃ b, e = .returned (.slice (some ⟨b, 0, none⟩) n n) ∧ Has w' b 3 (ints zs).toArray ∧ w.heap.size ≤ b ∧ Below w.heap.size w w'
set_option maxHeartbeats 400000 in
theorem told_any (g r most first k0 s n b : Nat) (vs zs : List Int) (w : World) (h : Rg w g r most first vs) (hz : vs.drop k0 = zs) (hs : first + k0 = s) (hn : zs.length = n) (hk : k0 ≤ vs.length) (hb : Has w b 22 (idxs s n).toArray) :
    Calls Try.prog 42 #[.func (.func 32) #[.pointer (some ⟨g, 0, none⟩)] #[], .slice (some ⟨b, 0, none⟩) n n] w (ToldOf zs n w) := by
  have hnum := h.num
  have hzl : zs.length = vs.length - k0 := by rw [← hz, List.length_drop]
  have hzn : n ≤ 4096 := by omega
  have hsn : s + n ≤ 18446744073709551615 := by omega
  obtain ⟨cap, cs, row, hat⟩ := h
  have hmk := fun w => run_make_row' (P := Try.prog) 29 3 (.int .i64 0) 8 Try.underlying29 info64 rfl .i64 .i64 n (by omega) (by omega) w
  have hhere : Hid (∀ j (hj : j < zs.length), row[(s + j) % most]? = some zs[j]) := by
    intro j hj
    have h1 := hat.at_ (k0 + j) (by omega)
    rw [show first + (k0 + j) = s + j by omega] at h1
    rw [h1]
    subst hz
    rw [List.getElem_drop]
  have hat' := Lib.hid hat
  have hb' := Lib.hid hb
  have hn' := Lib.hid hn
  clear hb hat hs hz hzl hk hnum hn
  go_enter Try.func42, Try.ntmps42
  go_wp2
  have hb0 := Has.new w 3 (madeCells #[.int .i64 0] n)
  have hB0 : Below w.heap.size w (w.alloc (.cells (madeCells #[.int .i64 0] n) 3)) := (Below.refl _ _).alloc (Nat.le_refl _) _
  have hmz : madeCells #[.int .i64 0] n = halfI zs 0 := by rw [← hn'.out]; exact halfI_none zs
  rw [hmz] at hb0 hB0 ⊢
  generalize w.alloc (.cells (halfI zs 0) 3) = w1 at hb0 hB0 ⊢
  have hb0' : Hid (Has w1 w.heap.size 3 (halfI zs 0)) := hb0
  have hB0' := Lib.hid hB0
  clear hb0 hB0 hmk hmz
  go_loopw [13] (fun i wr => ∃ j : Nat, j ≤ n ∧ i = .int .i64 j ∧ Has wr w.heap.size 3 (halfI zs j) ∧ Only w.heap.size w1 wr) (fun i _ => n - (intOf i).toNat)
  case atStart => exact ⟨0, Nat.zero_le _, rfl, hb0'.out, Only.refl _ _⟩
  case round =>
    obtain ⟨j, hj, rfl, hh, ho⟩ := hrel
    have hh' := Lib.hid hh
    have ho' := Lib.hid ho
    have hBw := ho.below (B := w.heap.size) (Nat.le_refl _)
    by_cases hlt : j < n
    · have hjz : j < zs.length := by have := hn'.out; omega
      have hhb := ((hb'.out.below hB0'.out hb'.out.lt).below hBw hb'.out.lt)
      have eb : wr.cell? ⟨b, j, none⟩ = some (.int .u64 ((s + j : Nat) : Int)) := by rw [hhb.cell]; exact idxs_at hlt
      have hatw := (hat'.out.kept (hB0'.out.block g hat'.out.head.lt) (hB0'.out.block r hat'.out.body.lt)).kept (hBw.block g hat'.out.head.lt) (hBw.block r hat'.out.body.lt)
      have hrj := hhere.out j hjz
      obtain ⟨hl1, hl2⟩ := List.getElem?_eq_some_iff.1 hrj
      have hcz : wr.cell? ⟨r, (s + j) % most, none⟩ = some (.int .i64 (zs[j]'hjz)) := by rw [hatw.body.cell, hatw.cells _ hl1, hl2]
      obtain ⟨x, hx⟩ : ∃ x, s + j = x := ⟨_, rfl⟩
      rw [hx] at eb
      have hcall := Lib.hid (value_any g r most cap ((s + j) % most) x (zs[j]'hjz) wr (hatw.head.cell 2) hatw.pos hatw.top (by omega) (by rw [hx]) hcz)
      obtain ⟨v, cv⟩ : ∃ v, wr.cell? ⟨w.heap.size, j, none⟩ = some v := ⟨(halfI zs j)[j]'(by rw [halfI_size (by omega)]; exact hjz), by rw [hh.cell]; exact Array.getElem?_eq_getElem _⟩
      have fv : wr.frozen? ⟨w.heap.size, j, none⟩ = false := hh.free j
      have hset := Lib.hid (halfI_set hjz)
      generalize (zs[j]'hjz) = z at hcall hset
      clear hh ho hcz hrj hatw hhb hx hBw hl2 hl1
      go_wp2_with (first | (go_at_call 32; refine hcall.out.mono ?_; rintro e w' ⟨rfl, q, rfl⟩) | fail)
      go_roundw
      case rel =>
        have hp := (hh'.out.drewN q).put j (.int .i64 z)
        rw [hset.out] at hp
        exact ⟨j + 1, by omega, by go_num, hp, (ho'.out.draws q).trans (only_setCell _ _ _ _)⟩
      case measure => simp [intOf]; omega
    · obtain rfl : j = n := by omega
      go_wp2
      go_ret
      have hh2 := hh'.out
      rw [← hn'.out, halfI_all] at hh2
      exact ⟨w.heap.size, rfl, hh2, Nat.le_refl _, hB0'.out.trans hBw⟩
/-! ## From -/
/-- What is gone over: the indices' slice, the values' slice, each in a box. -/
def SeqR (W : World) (k b1 b2 s : Nat) (zs : List Int) : Prop :=
  ∃ A c B d, Has W k 77 #[.slice A zs.length c] ∧ Has W (k + 1) 29 #[.slice B zs.length d] ∧ (0 < zs.length → A = some ⟨b1, 0, none⟩ ∧ Has W b1 22 (idxs s zs.length).toArray ∧ B = some ⟨b2, 0, none⟩ ∧ Has W b2 3 (ints zs).toArray) ∧ zs.length ≤ 4096 ∧ s + zs.length ≤ 18446744073709551615
theorem each_any (A B : Option Addr) (n c m d : Nat) (w : World) :
    Calls Try.prog 39 #[.slice A n c, .slice B m d] w fun e w' => e = .returned (.func (.func 45) #[] #[.pointer (some ⟨w.heap.size, 0, none⟩), .pointer (some ⟨w.heap.size + 1, 0, none⟩)]) ∧ w' = (w.alloc (.cells #[.slice A n c] 77)).alloc (.cells #[.slice B m d] 29) := by
  go_enter Try.func39, Try.ntmps39
  go_wp2
  go_ret
  exact ⟨rfl, rfl⟩
def FromOf (s : Nat) (zs : List Int) (w : World) (e : Ending) (w' : World) : Prop :=
  ∃ k b1 b2, e = .returned (.func (.func 45) #[] #[.pointer (some ⟨k, 0, none⟩), .pointer (some ⟨k + 1, 0, none⟩)]) ∧ SeqR w' k b1 b2 s zs ∧ w.heap.size ≤ k ∧ (w.heap.size ≤ b1 ∧ b1 < w'.heap.size) ∧ (w.heap.size ≤ b2 ∧ b2 < w'.heap.size) ∧ Below w.heap.size w w'
theorem from_none (v : Option Addr) (i : Nat) (w : World) (h : NoR w v) :
    Calls Try.prog 20 #[.pointer v, .int .u64 (i : Int)] w (FromOf 0 [] w) := by
  have hn := Lib.hid (none_yes v w h)
  clear h
  go_enter Try.func20, Try.ntmps20
  go_wp2_with (first | (go_at_call 30; refine hn.out.mono ?_; rintro e w' ⟨rfl, rfl⟩) | (go_at_call 39; refine (each_any _ _ _ _ _ _ _).mono ?_; rintro e w3 ⟨rfl, rfl⟩))
  go_ret
  have h2 := Has.new (w.alloc (.cells #[.slice none 0 0] 77)) 29 #[.slice none 0 0]
  rw [World.size_alloc] at h2
  exact ⟨w.heap.size, w.heap.size, w.heap.size, rfl, ⟨none, 0, none, 0, (Has.new w _ _).alloc _, h2, fun h => absurd h (by simp), by simp, by simp⟩, Nat.le_refl _, ⟨Nat.le_refl _, by simp; omega⟩, ⟨Nat.le_refl _, by simp; omega⟩, ((Below.refl _ _).alloc (Nat.le_refl _) _).alloc (by simp) _⟩
theorem from_any (g r most first i k0 s : Nat) (vs zs : List Int) (w : World) (h : Rg w g r most first vs) (hk : min (i - first) vs.length = k0) (hs : first + k0 = s) (hz : vs.drop k0 = zs) :
    Calls Try.prog 20 #[.pointer (some ⟨g, 0, none⟩), .int .u64 (i : Int)] w (FromOf s zs w) := by
  have hno := Lib.hid (none_no g r most first vs w h)
  have hrest := Lib.hid (rest_any g r most first i s (first + vs.length) vs w h rfl (by omega))
  have h' := Lib.hid h
  have hnum := Lib.hid h.num
  have hzl : Hid (zs.length = vs.length - k0) := by show _ = _; rw [← hz, List.length_drop]
  have hk' := Lib.hid hk
  have hs' := Lib.hid hs
  have hz' := Lib.hid hz
  obtain ⟨cap, c2⟩ := h.c2
  clear h hk hs hz
  go_enter Try.func20, Try.ntmps20
  go_wp2_with (first | (go_at_call 30; refine hno.out.mono ?_; rintro e w' ⟨rfl, rfl⟩) | fail)
  refine hrest.out.mono ?_
  rintro e w1 ⟨rfl, hB1⟩
  have hB1' := Lib.hid hB1
  clear hB1
  go_wp2_with fail
  obtain ⟨N, hN⟩ : ∃ N, first + vs.length = N := ⟨_, rfl⟩
  have hcast : ((first : Int) + (vs.length : Int)) = (N : Int) := by omega
  rw [hcast]
  have hN' := Lib.hid hN
  clear hcast hN
  have ha := Has.new w1 48 #[.int .u64 (s : Int), .int .u64 (N : Int)]
  have hba := (Below.refl w1.heap.size w1).alloc (Nat.le_refl _) (.cells #[.int .u64 (s : Int), .int .u64 (N : Int)] 48)
  have hB2 := hB1'.out.trans (hba.mono hB1'.out.size)
  have hkl := ha.lt
  generalize w1.alloc (.cells #[.int .u64 (s : Int), .int .u64 (N : Int)] 48) = w2 at ha hba hB2 hkl ⊢
  have hz1 := hzl.out
  have hk1 := hk'.out
  have hs1 := hs'.out
  have hN1 := hN'.out
  have hnn := hnum.out
  refine (list_any w1.heap.size s zs.length N w2 (ha.cell 0) (ha.cell 1) (by omega) (by omega) (by omega) hkl).mono ?_
  rintro e w3 ⟨b1, rfl, hi1, hb1, hB3⟩
  have hB4 := Lib.hid (hB2.trans (hB3.mono hB2.size))
  have hi1' := Lib.hid hi1
  have hb1' : Hid (w.heap.size ≤ b1) := by have := hB2.size; show _ ≤ _; omega
  clear ha hba hB2 hkl hi1 hb1 hB3 hz1 hk1 hs1 hN1 hnn
  go_wp2_with fail
  refine (told_any g r most first k0 s zs.length b1 vs zs w3 (h'.out.below hB4.out) hz'.out hs'.out rfl (by have := hk'.out; omega) hi1'.out).mono ?_
  rintro e w4 ⟨b2, rfl, hi2, hb2, hB5⟩
  have hB6 := Lib.hid (hB4.out.trans (hB5.mono hB4.out.size))
  have hi3 := Lib.hid (hi1'.out.below hB5 hi1'.out.lt)
  have hi2' := Lib.hid hi2
  have hb2' : Hid (w.heap.size ≤ b2) := by have := hB4.out.size; show _ ≤ _; omega
  clear hi2 hb2 hB5
  go_wp2_with (first | (go_at_call 39; refine (each_any _ _ _ _ _ _ _).mono ?_; rintro e w5 ⟨rfl, rfl⟩) | fail)
  go_ret
  have hnn := hnum.out
  have hz1 := hzl.out
  have hk1 := hk'.out
  have hs1 := hs'.out
  have g2 := Has.new (w4.alloc (.cells #[.slice (some ⟨b1, 0, none⟩) zs.length zs.length] 77)) 29 #[.slice (some ⟨b2, 0, none⟩) zs.length zs.length]
  rw [World.size_alloc] at g2
  refine ⟨w4.heap.size, b1, b2, rfl, ⟨_, _, _, _, (Has.new w4 _ _).alloc _, g2, fun _ => ⟨rfl, (hi3.out.alloc _).alloc _, rfl, (hi2'.out.alloc _).alloc _⟩, by omega, by omega⟩, hB6.out.size, ⟨hb1'.out, by have := hi3.out.lt; simp; omega⟩, ⟨hb2'.out, by have := hi2'.out.lt; simp; omega⟩, ?_⟩
  exact (hB6.out.alloc hB6.out.size _).alloc (by have := hB6.out.size; simp; omega) _
end Go.Proofs.Ytajdlkohnafbeaa
