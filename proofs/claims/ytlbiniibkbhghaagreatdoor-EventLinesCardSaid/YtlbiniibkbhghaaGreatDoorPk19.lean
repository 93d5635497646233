import Derived.Test.YtlbiniibkbhghaaGreatDoorPk17
import Derived.Test.YtlbiniibkbhghaaGreatDoorPk18
namespace Go.Proofs.YtlbiniibkbhghaaGreatDoor
open Go.RowKit

/-! ## What stands first, by the document's reading -/
theorem at0_cons (c : UInt8) (r : List UInt8) (j : Nat) : at0 (c :: r) (j + 1) = at0 r j := rfl
theorem at0_get {x : List UInt8} {j : Nat} (h : j < x.length) : at0 x j = x[j].toNat := by unfold at0; rw [List.getD_eq_getElem?_getD, List.getElem?_eq_getElem h]; rfl
theorem at0_take {x : List UInt8} {n j : Nat} (h : j < n) : at0 (x.take n) j = at0 x j := by
  unfold at0; rw [List.getD_eq_getElem?_getD, List.getD_eq_getElem?_getD, List.getElem?_take, if_pos h]
/-- Some point's bytes begin with the first n ones. -/
def okn (x : List UInt8) (n : Nat) : Prop := kOf (at0 x 0) ≠ 9 ∧ n ≤ moreN (kOf (at0 x 0)) + 1 ∧ ∀ j, 1 ≤ j → j < n → inR (kOf (at0 x 0)) j (at0 x j)
theorem okp_take {x : List UInt8} {n : Nat} (h1 : 1 ≤ n) (hn : n ≤ x.length) : okp (x.take n) ↔ okn x n := by
  have hl : (x.take n).length = n := by rw [List.length_take]; omega
  unfold okp okn
  rw [hl, at0_take (show 0 < n by omega)]
  constructor
  · exact fun ⟨a, b, c⟩ => ⟨a, b, fun j hj hj2 => by have := c j hj hj2; rwa [at0_take hj2] at this⟩
  · exact fun ⟨a, b, c⟩ => ⟨a, b, fun j hj hj2 => by have := c j hj hj2; rwa [at0_take hj2]⟩
theorem look_facts {x : List UInt8} (h0 : x ≠ []) (h9 : kOf (at0 x 0) ≠ 9) : 1 ≤ (look x).size ∧ (look x).size ≤ x.length ∧ (look x).st ≤ 2 ∧
    (∀ j, 1 ≤ j → j < (look x).size → inR (kOf (at0 x 0)) j (at0 x j)) ∧ ((look x).st = 0 → (look x).size = moreN (kOf (at0 x 0)) + 1) ∧
    ((look x).st = 1 → (look x).size < moreN (kOf (at0 x 0)) + 1 ∧ (look x).size < x.length ∧ ¬ inR (kOf (at0 x 0)) (look x).size (at0 x (look x).size)) ∧
    ((look x).st = 2 → (look x).size < moreN (kOf (at0 x 0)) + 1 ∧ (look x).size = x.length) := by
  cases x with
  | nil => exact absurd rfl h0
  | cons c r =>
    have hs := look_size (l := c :: r) h0
    have e0 : at0 (c :: r) 0 = c.toNat := rfl
    rw [e0] at h9 ⊢
    obtain ⟨L, hL⟩ : ∃ L, look (c :: r) = L := ⟨_, rfl⟩
    rw [hL] at hs ⊢
    have hg : goOn (kOf c.toNat) (moreN (kOf c.toNat)) 1 (c.toNat - markN (kOf c.toNat)) r = L := by rw [← hL, look, if_neg h9]
    obtain ⟨g1, g2, g3, g4⟩ := goOn_end _ _ _ _ _ _ hg
    refine ⟨hs.1, hs.2.2.1, hs.2.2.2, fun j h1 h2 => ?_, fun h => by have := g2 h; omega, fun h => ?_, fun h => ?_⟩
    · obtain ⟨i, rfl⟩ : ∃ i, j = i + 1 := ⟨j - 1, by omega⟩
      have hi : i < r.length := by have := hs.2.2.1; rw [List.length_cons] at this; omega
      have := g1 i hi (by omega)
      rw [at0_cons, at0_get hi, Nat.add_comm i 1]
      exact this
    · obtain ⟨_, a, hi, b⟩ := g3 h
      refine ⟨by omega, by rw [List.length_cons]; have := hs.1; omega, ?_⟩
      have key : ∀ (s : Nat) (hr : s - 1 < r.length), 1 ≤ s → at0 (c :: r) s = (r[s - 1]'hr).toNat := by
        intro s hr h1
        obtain ⟨i, rfl⟩ : ∃ i, s = i + 1 := ⟨s - 1, by omega⟩
        exact at0_get (x := r) (j := i) hr
      rw [key _ hi hs.1]
      exact b
    · obtain ⟨_, a, b⟩ := g4 h
      exact ⟨by omega, by rw [List.length_cons]; omega⟩
theorem look_ext {L : Look} {a b c : Nat} (h1 : L.point = a) (h2 : L.size = b) (h3 : L.st = c) : L = ⟨a, b, c⟩ := by cases L; cases h1; cases h2; cases h3; rfl
/-- At once: nothing begins so. -/
theorem first_no0 {x : List UInt8} (h0 : x ≠ []) (h : ¬ okn x 1) : look x = ⟨65533, 1, 1⟩ := by
  have h9 : kOf (at0 x 0) = 9 := by
    refine Decidable.byContradiction fun hn => h ⟨hn, by omega, fun j h1 h2 => by omega⟩
  cases x with
  | nil => exact absurd rfl h0
  | cons c r => rw [look]; exact if_pos h9
theorem first_no {x : List UInt8} {n : Nat} (_h1 : 1 ≤ n) (ho : okn x n) (hm : n < moreN (kOf (at0 x 0)) + 1) (hn : n < x.length) (h : ¬ okn x (n + 1)) : look x = ⟨65533, n, 1⟩ := by
  have hx : x ≠ [] := by rintro rfl; simp at hn
  obtain ⟨f1, f2, f3, f4, f5, f6, f7⟩ := look_facts hx ho.1
  have hsz : (look x).size ≤ n := by
    refine Nat.le_of_not_lt fun hlt => h ⟨ho.1, by omega, fun j hj hj2 => ?_⟩
    exact f4 j hj (by omega)
  have hst : (look x).st = 1 := by
    have hc : (look x).st = 0 ∨ (look x).st = 1 ∨ (look x).st = 2 := by omega
    rcases hc with h | h | h
    · have := f5 h; omega
    · exact h
    · have := f7 h; omega
  have hge : n ≤ (look x).size := by
    refine Nat.le_of_not_lt fun hlt => (f6 hst).2.2 (ho.2.2 _ f1 hlt)
  exact look_ext (look_pt (by omega)) (by omega) hst
theorem first_short {x : List UInt8} (h0 : x ≠ []) (ho : okn x x.length) (hm : x.length < moreN (kOf (at0 x 0)) + 1) : look x = ⟨65533, x.length, 2⟩ := by
  obtain ⟨f1, f2, f3, f4, f5, f6, f7⟩ := look_facts h0 ho.1
  have hst : (look x).st = 2 := by
    have hc : (look x).st = 0 ∨ (look x).st = 1 ∨ (look x).st = 2 := by omega
    rcases hc with h | h | h
    · have := f5 h; omega
    · exact absurd (ho.2.2 _ f1 (f6 h).2.1) (f6 h).2.2
    · exact h
  exact look_ext (look_pt (by omega)) (f7 hst).2 hst
theorem first_whole {x : List UInt8} {n : Nat} (ho : okn x n) (hm : n = moreN (kOf (at0 x 0)) + 1) (hn : n ≤ x.length) : (look x).st = 0 ∧ (look x).size = n := by
  have hx : x ≠ [] := by rintro rfl; simp at hn; omega
  obtain ⟨f1, f2, f3, f4, f5, f6, f7⟩ := look_facts hx ho.1
  have hst : (look x).st = 0 := by
    have hc : (look x).st = 0 ∨ (look x).st = 1 ∨ (look x).st = 2 := by omega
    rcases hc with h | h | h
    · exact h
    · exact absurd (ho.2.2 _ f1 (by have := (f6 h).1; omega)) (f6 h).2.2
    · have := f7 h; omega
  exact ⟨hst, by have := f5 hst; omega⟩
/-- The span of a point's bytes is that point. -/
theorem low_pt {p : Nat} (h : isPt p) : lowN (ptB p) (manyN (at0 (ptB p) 0) - 1) = p := by
  unfold isPt at h
  unfold ptB
  split
  · have e0 : at0 [u8 p] 0 = p := u8_toNat (by omega)
    have hm : manyN p = 1 := by unfold manyN; rw [if_pos (by omega)]
    rw [e0, hm]
    show firstN (at0 [u8 p] 0) = p
    rw [e0]; unfold firstN; rw [if_pos (by omega)]
  · split
    · have e0 : at0 [u8 (192 + p / 64), u8 (128 + p % 64)] 0 = 192 + p / 64 := u8_toNat (by omega)
      have e1 : at0 [u8 (192 + p / 64), u8 (128 + p % 64)] 1 = 128 + p % 64 := u8_toNat (by omega)
      have hm : manyN (192 + p / 64) = 2 := by unfold manyN; (repeat' split) <;> omega
      have hf : firstN (192 + p / 64) = p / 64 := by unfold firstN; (repeat' split) <;> omega
      rw [e0, hm]
      simp [lowN, e0, e1, hf]
      omega
    · split
      · have e0 : at0 [u8 (224 + p / 4096), u8 (128 + p / 64 % 64), u8 (128 + p % 64)] 0 = 224 + p / 4096 := u8_toNat (by omega)
        have e1 : at0 [u8 (224 + p / 4096), u8 (128 + p / 64 % 64), u8 (128 + p % 64)] 1 = 128 + p / 64 % 64 := u8_toNat (by omega)
        have e2 : at0 [u8 (224 + p / 4096), u8 (128 + p / 64 % 64), u8 (128 + p % 64)] 2 = 128 + p % 64 := u8_toNat (by omega)
        have hm : manyN (224 + p / 4096) = 3 := by unfold manyN; (repeat' split) <;> omega
        have hf : firstN (224 + p / 4096) = p / 4096 := by unfold firstN; (repeat' split) <;> omega
        rw [e0, hm]
        simp [lowN, e0, e1, e2, hf]
        omega
      · have e0 : at0 [u8 (240 + p / 262144), u8 (128 + p / 4096 % 64), u8 (128 + p / 64 % 64), u8 (128 + p % 64)] 0 = 240 + p / 262144 := u8_toNat (by omega)
        have e1 : at0 [u8 (240 + p / 262144), u8 (128 + p / 4096 % 64), u8 (128 + p / 64 % 64), u8 (128 + p % 64)] 1 = 128 + p / 4096 % 64 := u8_toNat (by omega)
        have e2 : at0 [u8 (240 + p / 262144), u8 (128 + p / 4096 % 64), u8 (128 + p / 64 % 64), u8 (128 + p % 64)] 2 = 128 + p / 64 % 64 := u8_toNat (by omega)
        have e3 : at0 [u8 (240 + p / 262144), u8 (128 + p / 4096 % 64), u8 (128 + p / 64 % 64), u8 (128 + p % 64)] 3 = 128 + p % 64 := u8_toNat (by omega)
        have hm : manyN (240 + p / 262144) = 4 := by unfold manyN; (repeat' split) <;> omega
        have hf : firstN (240 + p / 262144) = p / 262144 := by unfold firstN; (repeat' split) <;> omega
        rw [e0, hm]
        simp [lowN, e0, e1, e2, e3, hf]
        omega
theorem first_point {x : List UInt8} {n : Nat} (_h1 : 1 ≤ n) (ho : okn x n) (hm : n = moreN (kOf (at0 x 0)) + 1) (hn : n ≤ x.length) :
    look x = ⟨lowN (x.take n) (manyN (at0 (x.take n) 0) - 1), n, 0⟩ := by
  obtain ⟨a, b⟩ := first_whole ho hm hn
  obtain ⟨c, d⟩ := whole_pt a
  rw [b] at c
  refine look_ext ?_ b a
  rw [c, low_pt d]
theorem okn_many {x : List UInt8} {n : Nat} (ho : okn x n) : manyN (at0 x 0) = moreN (kOf (at0 x 0)) + 1 := (more_many _ (lt256 _) ho.1).symm
theorem begins_okn {x : List UInt8} {n : Nat} (h1 : 1 ≤ n) (h4 : n ≤ 4) (hn : n ≤ x.length) : beginsOk (x.take n) = true ↔ okn x n := by
  have hl : (x.take n).length = n := by rw [List.length_take]; omega
  rw [begins_okp _ (by omega) (by omega), okp_take h1 hn]
theorem begins_span {x : List UInt8} (h : beginsOk x = true) : spanOk x = true := by
  rw [beginsOk_eq, Bool.and_eq_true, Bool.and_eq_true] at h
  exact h.1.1

/-! ## First, walked -/
def FirstOf (x : List UInt8) (w : World) (e : Ending) (w' : World) : Prop :=
  e = .returned (.tuple #[.int .i64 ((look x).point : Int), .int .i64 ((look x).size : Int), .bool (decide ((look x).st ≠ 2))]) ∧ Below w.heap.size w w'
theorem begins_false {ad : Addr} {x : List UInt8} {n c : Nat} {w : World} (h : Calls Tryz.prog 107 #[.slice (some ad) n c] w (BeginsOf x w)) (hs : beginsOk x = false) :
    Calls Tryz.prog 107 #[.slice (some ad) n c] w fun e w' => (∃ mv : Int, e = .returned (.tuple #[.int .i64 mv, .bool false])) ∧ Below w.heap.size w w' := by
  refine h.mono ?_
  rintro e w' ⟨mv, rfl, _, hb⟩
  rw [hs]
  exact ⟨⟨mv, rfl⟩, hb⟩
theorem begins_true {ad : Addr} {x : List UInt8} {n c : Nat} {w : World} (h : Calls Tryz.prog 107 #[.slice (some ad) n c] w (BeginsOf x w)) (hs : beginsOk x = true) :
    Calls Tryz.prog 107 #[.slice (some ad) n c] w fun e w' => e = .returned (.tuple #[.int .i64 (manyN (at0 x 0)), .bool true]) ∧ Below w.heap.size w w' := by
  refine h.mono ?_
  rintro e w' ⟨mv, rfl, hm, hb⟩
  rw [hs, hm hs]
  exact ⟨rfl, hb⟩
theorem begins_at {ad : Addr} {x : List UInt8} {c : Nat} (k : Nat) {w W : World} (h : Rd w (· < w.heap.size) (some ad) x) (hb : Below w.heap.size w W) (hk : k < x.length) (hc : x.length ≤ c) (hc' : c ≤ 9223372036854775807) :
    Calls Tryz.prog 107 #[.slice (some ad) (k + 1) c] W (BeginsOf (x.take (k + 1)) W) ∧ Calls Tryz.prog 108 #[.slice (some ad) (k + 1) c] W (SpanOf (x.take (k + 1)) W) := by
  have hl : (x.take (k + 1)).length = k + 1 := by rw [List.length_take]; omega
  have hr : Rd W (· < W.heap.size) (some ad) (x.take (k + 1)) := ((h.kept (Kept.below hb (fun _ h => h))).mono (S' := (· < W.heap.size)) (fun b hb' => by have hb' : b < w.heap.size := hb'; have := hb.size; show b < W.heap.size; omega)).take (k + 1)
  exact ⟨begins_any ad _ _ c W hr hl.symm (by omega) (by omega) hc', span_any ad _ _ c W hr hl.symm (by omega) (by omega) hc'⟩
theorem okn_one {x : List UInt8} {n : Nat} (_h1 : 1 ≤ n) (h : okn x n) : okn x 1 := ⟨h.1, by omega, fun j a b => by omega⟩
set_option maxRecDepth 100000 in
set_option maxHeartbeats 2000000 in
theorem first_any (ad : Addr) (x : List UInt8) (n c : Nat) (w : World) (h : Rd w (· < w.heap.size) (some ad) x) (hn : n = x.length) (h1 : 1 ≤ x.length) (hc : n ≤ c) (hc' : c ≤ 9223372036854775807) :
    Calls Tryz.prog 92 #[.slice (some ad) n c] w (FirstOf x w) := by
  have h' := Lib.hid h
  have hn' := Lib.hid hn
  have hx : Hid (x ≠ []) := Lib.hid (by rintro rfl; simp at h1)
  clear h
  have hn1 : 1 ≤ n := by omega
  clear hn h1
  go_enter Tryz.func92, Tryz.ntmps92
  go_wp2
  go_loopw [5] (fun v W => ∃ k : Nat, v = .int .i64 (k : Int) ∧ k ≤ n ∧ k ≤ 3 ∧ (k = 0 ∨ okn x k ∧ k < moreN (kOf (at0 x 0)) + 1) ∧ Below w.heap.size w W) (fun v _ => 5 - (intOf v).toNat)
  case atStart => exact ⟨0, rfl, by omega, by omega, .inl rfl, Below.refl _ _⟩
  case round =>
    obtain ⟨k, rfl, hk, hk3, ho, hb⟩ := hrel
    have ho' := Lib.hid ho
    have hb' := Lib.hid hb
    by_cases hlt : k < n
    · have hat := begins_at k h'.out hb (by have := hn'.out; omega) (by have := hn'.out; omega) hc'
      have hat2 := fun W (hbW : Below w.heap.size w W) => (begins_at k h'.out hbW (by have := hn'.out; omega) (by have := hn'.out; omega) hc').2
      have hkc : k + 1 ≤ c := by omega
      cases hbo : beginsOk (x.take (k + 1)) with
      | false =>
        have hbg := Lib.hid (begins_false hat.1 hbo)
        have hno : Hid (¬ okn x (k + 1)) := Lib.hid (by rw [← begins_okn (by omega) (by omega) (by have := hn'.out; omega), hbo]; decide)
        clear hat ho hb hbo
        rcases Nat.eq_zero_or_pos k with k0 | k0
        · subst k0
          go_wp2_with (go_at_call 107; refine hbg.out.mono ?_; rintro e w2 ⟨⟨mv, rfl⟩, hb2⟩)
          refine bodyPost_ret (v := .tuple #[.int .i64 65533, .int .i64 1, .bool true]) (by simp [results, Tryz.results92, go_sem] <;> rfl) rfl ⟨?_, hb'.out.trans (hb2.mono hb'.out.size)⟩
          rw [first_no0 hx.out hno.out]
          rfl
        · have ki : (1 : Int) ≤ (k : Int) := by omega
          have kl : (k : Int) < (n : Int) := by omega
          go_wp2_with (go_at_call 107; refine hbg.out.mono ?_; rintro e w2 ⟨⟨mv, rfl⟩, hb2⟩)
          all_goals
            have hf : look x = ⟨65533, k, 1⟩ := by
              rcases ho'.out with h | h
              · omega
              · exact first_no k0 h.1 h.2 (by have := hn'.out; omega) hno.out
            refine bodyPost_ret (v := .tuple #[.int .i64 65533, .int .i64 (k : Int), .bool true]) (by simp [results, Tryz.results92, go_sem] <;> omega) rfl ⟨?_, hb'.out.trans (hb2.mono hb'.out.size)⟩
            rw [hf]
            rfl
      | true =>
        have hok : okn x (k + 1) := by rw [← begins_okn (by omega) (by omega) (by have := hn'.out; omega), hbo]
        have hbg := begins_true hat.1 hbo
        have hsp := fun W (hbW : Below w.heap.size w W) => span_yes (hat2 W hbW) (begins_span hbo)
        have hm0 : at0 (x.take (k + 1)) 0 = at0 x 0 := at0_take (by omega)
        have hfp := fun h => first_point (x := x) (n := k + 1) (by omega) hok h (by have := hn'.out; omega)
        rw [hm0, okn_many hok] at hbg hsp hfp
        have hok' := Lib.hid hok
        have h4 : k + 1 ≤ moreN (kOf (at0 x 0)) + 1 := hok.2.1
        generalize lowN (x.take (k + 1)) (moreN (kOf (at0 x 0)) + 1 - 1) = lo at hsp hfp
        generalize topN (x.take (k + 1)) (moreN (kOf (at0 x 0)) + 1 - 1) = tq at hsp
        have hfp' := Lib.hid hfp
        have hml := moreN_le (kOf (at0 x 0))
        obtain ⟨mm, hmm⟩ : ∃ mm, moreN (kOf (at0 x 0)) + 1 = mm := ⟨_, rfl⟩
        rw [hmm] at hbg hsp h4
        have hmm' := Lib.hid hmm
        have hml' : mm ≤ 4 := by omega
        have hbg' := Lib.hid hbg
        have hsp' := Lib.hid hsp
        clear hat hat2 ho hb hbo hok hbg hsp hm0 hfp hml hmm
        by_cases hwh : k + 1 = mm
        · subst hwh
          go_wp2_with (first | (go_at_call 107; refine hbg'.out.mono ?_; rintro e w2 ⟨rfl, hb2⟩; have hb3' := Lib.hid (hb'.out.trans (hb2.mono hb'.out.size)); have hsp2 := Lib.hid (hsp'.out w2 hb3'.out); clear hb2) | (go_at_call 108; refine hsp2.out.mono ?_; rintro e w3 ⟨rfl, hb4⟩))
          have hf := hfp'.out (by have := hmm'.out; omega)
          refine bodyPost_ret (v := .tuple #[.int .i64 (lo : Int), .int .i64 ((k : Int) + 1), .bool true]) (by simp [results, Tryz.results92, go_sem] <;> rfl) rfl ⟨?_, hb3'.out.trans (hb4.mono hb3'.out.size)⟩
          rw [hf]
          rfl
        · have hi : (k : Int) + 1 < (mm : Int) := by omega
          go_wp2_with (go_at_call 107; refine hbg'.out.mono ?_; rintro e w2 ⟨rfl, hb2⟩)
          refine ⟨⟨k + 1, by go_num, by omega, by omega, .inr ⟨hok'.out, by have := hmm'.out; omega⟩, hb'.out.trans (hb2.mono hb'.out.size)⟩, by simp [intOf]; omega⟩
    · obtain rfl : k = n := by omega
      have ki : (1 : Int) ≤ (k : Int) := by omega
      clear hb ho
      go_wp2
      all_goals
        have hf : look x = ⟨65533, x.length, 2⟩ := by
          rcases ho'.out with h | h
          · omega
          · rw [hn'.out] at h
            exact first_short hx.out h.1 h.2
        refine bodyPost_ret (v := .tuple #[.int .i64 65533, .int .i64 (k : Int), .bool false]) (by simp [results, Tryz.results92, go_sem] <;> omega) rfl ⟨?_, hb'.out⟩
        rw [hf, hn'.out]
        rfl
end Go.Proofs.YtlbiniibkbhghaaGreatDoor
