import Derived.Test.YtlbiniibkbhghaaGreatDoorPk22
import Derived.Test.YtlbiniibkbhghaaGreatDoorPk11
import Derived.Test.YtlbiniibkbhghaaGreatDoorPk25
import Derived.Test.YtlbiniibkbhghaaGreatDoorPk10
import Derived.Test.YtlbiniibkbhghaaGreatDoorPk12
import Derived.Test.YtlbiniibkbhghaaGreatDoorPk23
namespace Go.Proofs.YtlbiniibkbhghaaGreatDoor
open Go.RowKit Go.Shelf
attribute [local go_sem] Oper.semAt_some

/-! ## The document's Comment, Reset, Resets -/
/-- Bytes below 128 are sound. -/
theorem sound_ascii : ∀ l : List UInt8, (∀ b ∈ l, b.toNat < 128) → SoundL l
  | [], _ => sound_nil
  | b :: r, h => by
    have hb : b.toNat < 128 := h b (by simp)
    have hk : kOf b.toNat = 0 := by unfold kOf; rw [if_pos (by omega)]
    have hl : look (b :: r) = ⟨b.toNat - markN 0, 1, 0⟩ := by
      show (if kOf b.toNat = 9 then (⟨65533, 1, 1⟩ : Look) else goOn (kOf b.toNat) (moreN (kOf b.toNat)) 1 (b.toNat - markN (kOf b.toNat)) r) = _
      rw [hk, if_neg (by decide)]
      rfl
    rw [sound_look (by simp), hl]
    refine ⟨rfl, ?_⟩
    simpa using sound_ascii r (fun c hc => h c (by simp [hc]))
theorem txt_small {x K : Nat} : ∀ b ∈ txt 10 x K, 48 ≤ b.toNat ∧ b.toNat < 128 := by
  intro b hb
  simp only [txt, upto, List.mem_reverse, List.mem_map] at hb
  obtain ⟨k, _, rfl⟩ := hb
  have h16 : digAt 10 x k < 10 := Nat.mod_lt _ (by omega)
  have : ∀ d : Fin 10, 48 ≤ (sgn d.1).toNat ∧ (sgn d.1).toNat < 128 := by decide
  exact this ⟨_, h16⟩
/-- The event of a reset. -/
def rsE (x y K1 K2 : Nat) : Ev := ([], resetT, txt 10 x K1 ++ 32 :: txt 10 y K2)
theorem rsE_len {x y K1 K2 : Nat} (hx : x < 18446744073709551616) (hy : y < 18446744073709551616) (h1 : IsLen 10 x K1) (h2 : IsLen 10 y K2) : (txt 10 x K1 ++ 32 :: txt 10 y K2).length ≤ 41 := by
  have a := (isLen_le (.inl rfl) hx h1).2
  have b := (isLen_le (.inl rfl) hy h2).2
  rw [List.length_append, List.length_cons, txt_len, txt_len]
  omega
theorem rsE_right {x y K1 K2 : Nat} (hx : x < 18446744073709551616) (hy : y < 18446744073709551616) (h1 : IsLen 10 x K1) (h2 : IsLen 10 y K2) : rightE (rsE x y K1 K2) = true := by
  have hl := rsE_len hx hy h1 h2
  have hs : ∀ b ∈ txt 10 x K1 ++ 32 :: txt 10 y K2, b.toNat < 128 ∧ b ≠ 13 := by
    intro b hb
    rcases List.mem_append.1 hb with h | h
    · have := txt_small b h
      exact ⟨this.2, fun e => by rw [e] at this; exact absurd this.1 (by decide)⟩
    · rcases List.mem_cons.1 h with h | h
      · rw [h]; exact ⟨by decide, by decide⟩
      · have := txt_small b h
        exact ⟨this.2, fun e => by rw [e] at this; exact absurd this.1 (by decide)⟩
  unfold rightE rsE
  simp only [Bool.and_eq_true]
  refine ⟨?_, by unfold cleanB soundB; decide +kernel, by unfold cleanB soundB; decide +kernel, ?_⟩
  · unfold fitsE resetT
    simp only [List.length_nil, List.length_cons, decide_eq_true_eq]
    omega
  · rw [cleanB_iff]
    refine ⟨decide_eq_true (sound_ascii _ fun b hb => (hs b hb).1), fun b hb => ?_⟩
    have : b = 13 := by simpa [barL] using hb
    subst this
    exact fun h => (hs 13 h).2 rfl
theorem rsE_res {x y K1 K2 : Nat} (hx : x < 18446744073709551616) (hy : y < 18446744073709551616) (h1 : IsLen 10 x K1) (h2 : IsLen 10 y K2) : resE (rsE x y K1 K2) = some ((x : Int), (y : Int)) := by
  unfold resE rsE
  have hn : (32 : UInt8) ∉ txt 10 x K1 := fun h => by have := (txt_small 32 h).1; exact absurd this (by decide)
  have hc := (cutG (s := txt 10 x K1 ++ 32 :: txt 10 y K2)).2 _ _ rfl hn
  simp only
  rw [hc]
  simp only [parseR_txt hx h1, parseR_txt hy h2]
  rfl
theorem refText_is {x K : Nat} (hx : x < 18446744073709551616) (hK : IsLen 10 x K) (w : World) : Calls Tryz.prog 43 #[.int .u64 x] w fun e w' => e = .returned (.string ⟨(txt 10 x K).toArray⟩) ∧ w = w' := by
  refine (refText_any x hx w).mono ?_
  rintro e w' ⟨⟨K', hK', rfl⟩, rfl⟩
  rw [isLen_one (by omega) hK hK']
  exact ⟨rfl, rfl⟩
set_option maxRecDepth 100000 in
theorem refReset_any {x y K1 K2 : Nat} (hx : x < 18446744073709551616) (hy : y < 18446744073709551616) (h1 : IsLen 10 x K1) (h2 : IsLen 10 y K2) (w : World) : Calls Tryz.prog 23 #[.int .u64 x, .int .u64 y] w fun r w' => r = .returned (evV (rsE x y K1 K2)) ∧ Below w.heap.size w w' := by
  have hl := rsE_len hx hy h1 h2
  have t1 := Lib.hid (fun W => refText_is hx h1 W)
  have t2 := Lib.hid (fun W => refText_is hy h2 W)
  obtain ⟨p, hp⟩ : ∃ p, txt 10 x K1 = p := ⟨_, rfl⟩
  obtain ⟨q, hq⟩ : ∃ q, txt 10 y K2 = q := ⟨_, rfl⟩
  unfold rsE evV evCells resetT
  simp only
  rw [hp, hq] at hl ⊢
  rw [hp] at t1
  rw [hq] at t2
  rw [List.length_append, List.length_cons] at hl
  have hc1 := cat_b p [32]
  have hc2 := cat_b (p ++ [32]) q
  clear hp hq
  go_enter Tryz.func23, Tryz.ntmps23
  go_wp2_with (first
    | (go_at_call 43; (with_reducible refine Calls.mono (t1.out _) ?_); rintro r w2 ⟨rfl, rfl⟩)
    | (go_at_call 43; (with_reducible refine Calls.mono (t2.out _) ?_); rintro r w2 ⟨rfl, rfl⟩))
  have kR := Has.new w 23 #[.string ⟨#[]⟩, .string ⟨#[115, 116, 114, 101, 97, 109, 45, 114, 101, 115, 101, 116]⟩, .string ⟨(p ++ 32 :: q).toArray⟩]
  have x0 := kR.cell 0
  have x1 := kR.cell 1
  have x2 := kR.cell 2
  exact bodyPost_ret (v := .agg #[.string ⟨#[]⟩, .string ⟨#[115, 116, 114, 101, 97, 109, 45, 114, 101, 115, 101, 116]⟩, .string ⟨(p ++ 32 :: q).toArray⟩]) (by simp [results, Tryz.results23, go_sem, x0, x1, x2]) rfl ⟨rfl, (Below.refl _ _).alloc (Nat.le_refl _) _⟩
/-- What the document tells of a comment. -/
def RefCm (t : List UInt8) (w : World) (r : Ending) (w' : World) : Prop :=
  ((okC t = true ∧ r = .returned (.tuple #[.string ⟨(comL t).toArray⟩, .int .i64 0])) ∨ (okC t = false ∧ r = .returned (.tuple #[.string ⟨#[]⟩, .int .i64 2]))) ∧ Below w.heap.size w w'
set_option maxRecDepth 100000 in
theorem refComment_any (t : List UInt8) (w : World) (hl : t.length ≤ 300) : Calls Tryz.prog 19 #[.string ⟨t.toArray⟩] w (RefCm t w) := by
  have hok : okC t = (!hasB t [13, 10] && soundB t) := by
    unfold okC cleanB
    rw [hasB2, decide_eq_true (show t.length ≤ 65536 by omega)]
    cases soundB t <;> simp
  have s1 := Lib.hid (fun W (hb : Below w.heap.size w W) => carryB w W hb (refSound_any ⟨t.toArray⟩ W (by show t.toArray.size ≤ _; simp; omega)))
  rw [show (⟨t.toArray⟩ : ByteArray).data.toList = t from rfl] at s1
  have t1 := Lib.hid (refHas_any t [13, 10] w (by omega) (by decide))
  have r1 : decide ((65536 : Int) < (t.length : Int)) = false := decide_eq_false (by omega)
  have q1 : decide (65536 < t.length) = false := decide_eq_false (by omega)
  have hcat := cat_b [58, 32] t
  have hcat2 := cat_b (58 :: 32 :: t) [10, 10]
  unfold RefCm
  obtain ⟨B1, e1⟩ : ∃ B1, hasB t [13, 10] = B1 := ⟨_, rfl⟩
  obtain ⟨B2, e2⟩ : ∃ B2, soundB t = B2 := ⟨_, rfl⟩
  rw [e1] at t1 hok
  rw [e2] at s1 hok
  have hok' := Lib.hid hok
  clear e1 e2 hok
  cases B1 with
  | true =>
    go_enter Tryz.func19, Tryz.ntmps19
    go_wp2_with (go_at_call 30; (with_reducible refine Calls.mono t1.out ?_); rintro r y0 ⟨rfl, hd0⟩; have hc0 := Lib.hid hd0; clear hd0)
    exact bodyPost_ret (v := .tuple #[.string ⟨#[]⟩, .int .i64 2]) (by simp [results, Tryz.results19, go_sem]) rfl ⟨.inr ⟨hok'.out, rfl⟩, hc0.out⟩
  | false =>
    cases B2 with
    | false =>
      go_enter Tryz.func19, Tryz.ntmps19
      go_wp2_with (first
        | (go_at_call 30; (with_reducible refine Calls.mono t1.out ?_); rintro r y0 ⟨rfl, hd0⟩; have hc0 := Lib.hid hd0; clear hd0)
        | (go_at_call 31; (with_reducible refine Calls.mono (s1.out _ hc0.out) ?_); rintro r y1 ⟨rfl, hd1⟩; have hc1 := Lib.hid hd1; clear hd1))
      exact bodyPost_ret (v := .tuple #[.string ⟨#[]⟩, .int .i64 2]) (by simp [results, Tryz.results19, go_sem]) rfl ⟨.inr ⟨hok'.out, rfl⟩, hc1.out⟩
    | true =>
      go_enter Tryz.func19, Tryz.ntmps19
      go_wp2_with (first
        | (go_at_call 30; (with_reducible refine Calls.mono t1.out ?_); rintro r y0 ⟨rfl, hd0⟩; have hc0 := Lib.hid hd0; clear hd0)
        | (go_at_call 31; (with_reducible refine Calls.mono (s1.out _ hc0.out) ?_); rintro r y1 ⟨rfl, hd1⟩; have hc1 := Lib.hid hd1; clear hd1))
      exact bodyPost_ret (v := .tuple #[.string ⟨(comL t).toArray⟩, .int .i64 0]) (by simp [results, Tryz.results19, go_sem, comL]) rfl ⟨.inl ⟨hok'.out, rfl⟩, hc1.out⟩
theorem partsG_len (c : UInt8) : ∀ (d p : List UInt8), p ∈ partsG c d → p.length ≤ d.length
  | [], p, h => by simp [partsG] at h; subst h; simp
  | b :: r, p, h => by
    have ih := partsG_len c r
    unfold partsG at h
    split at h
    · rcases List.mem_cons.1 h with h | h
      · subst h; simp
      · have := ih p h; simp; omega
    · cases hp : partsG c r with
      | nil => exact absurd hp (partsG_ne c r)
      | cons q ps =>
        rw [hp] at h ih
        simp only [List.mem_cons] at h
        rcases h with h | h
        · subst h; have := ih q (by simp); simp; omega
        · have := ih p (by simp [h]); simp; omega
set_option maxRecDepth 100000 in
set_option maxHeartbeats 2000000 in
theorem refResets_any (e : Ev) (w : World) (hl : e.2.2.length ≤ 300) : Calls Tryz.prog 22 #[evV e] w (ResetsR e w) := by
  have heq := refRes_eq e
  obtain ⟨a, b, c⟩ := e
  simp only at hl
  have hb1 : Below w.heap.size w (w.alloc (.cells (evCells (a, b, c)) 23)) := (Below.refl _ _).alloc (Nat.le_refl _) _
  have hk := Has.new w 23 (evCells (a, b, c))
  have hpr := Lib.hid (show Calls Tryz.prog 33 #[.string ⟨c.toArray⟩, .int .u8 32] (w.alloc (.cells (evCells (a, b, c)) 23)) _ from refParts_any 32 c (w.alloc (.cells (evCells (a, b, c)) 23)) (by omega))
  have hpl := partsG_many 32 c
  have hps : ∀ (p : List UInt8) (W : World), p.length ≤ 1000 → Calls Tryz.prog 42 #[.string ⟨p.toArray⟩] W fun r w' => r = Two (parseR p) ∧ W = w' := fun p W hp =>
    refParse_any ⟨p.toArray⟩ (by show p.toArray.size ≤ _; simp; omega) W
  have hpm : ∀ p ∈ partsG 32 c, p.length ≤ 300 := fun p hp => Nat.le_trans (partsG_len 32 c p hp) hl
  have hb1' := Lib.hid hb1
  have hk' := Lib.hid hk
  unfold ResetsR
  rw [← heq]
  obtain ⟨R, hR⟩ : ∃ R, refRes (a, b, c) = R := ⟨_, rfl⟩
  rw [hR]
  unfold refRes at hR
  simp only at hR
  obtain ⟨L, hL⟩ : ∃ L, partsG 32 c = L := ⟨_, rfl⟩
  rw [hL] at hR hpr hpl hpm
  clear heq hb1 hk hL
  unfold evV evCells at *
  simp only at hpr hb1' hk' ⊢
  by_cases ha : a = []
  · by_cases hb : b = resetT
    · rw [if_pos ⟨ha, hb⟩] at hR
      subst ha; subst hb
      match L, hR, hpr, hpm, hpl with
      | [p, q], hR, hpr, hpm, hpl =>
        simp only at hR
        have hpp := Lib.hid (fun W => hps p W (by have := hpm p (by simp); omega))
        have hqq := Lib.hid (fun W => hps q W (by have := hpm q (by simp); omega))
        obtain ⟨⟨p1, p2⟩, hp⟩ : ∃ x, parseR p = x := ⟨_, rfl⟩
        obtain ⟨⟨q1, q2⟩, hq⟩ : ∃ x, parseR q = x := ⟨_, rfl⟩
        rw [hp] at hpp hR
        rw [hq] at hqq hR
        simp only at hR
        unfold Two at hpp hqq
        simp only at hpp hqq
        clear hp hq hps hpm hpl hl
        unfold resetT at *
        by_cases h1 : p2 = 0
        · subst h1
          by_cases h2 : q2 = 0
          · subst h2
            rw [if_pos ⟨rfl, rfl⟩] at hR
            have hR' := Lib.hid hR
            clear hR
            go_enter Tryz.func22, Tryz.ntmps22
            go_wp2_with (first
              | (go_at_call 33; (with_reducible refine Calls.mono hpr.out ?_); rintro r w2 ⟨v2, rfl, hs2, hb2⟩; obtain ⟨A2, g2, c2, cur2, rfl, hin⟩ := hs2.shape; have x2 := hk'.out.below hb2 hk'.out.lt; have x20 := x2.cell 0; have x21 := x2.cell 1; have x22 := x2.cell 2; have hb2' := Lib.hid (hb1'.out.trans (hb2.mono (by simp))); obtain ⟨rfl, _, hrow⟩ := hin.1 (by simp); have r0 := hrow.cell 0; have r1 := hrow.cell 1; rw [hin.2 0 p rfl] at r0; rw [hin.2 1 q rfl] at r1; simp only [List.length_cons, List.length_nil, Nat.reduceAdd]; clear hs2 hb2 x2)
              | (go_at_call 42; (with_reducible refine Calls.mono (hpp.out _) ?_); rintro r w3 ⟨rfl, rfl⟩)
              | (go_at_call 42; (with_reducible refine Calls.mono (hqq.out _) ?_); rintro r w3 ⟨rfl, rfl⟩))
            exact bodyPost_ret (v := .tuple #[.int .u64 p1, .int .u64 q1, .int .i64 0]) (by simp [results, Tryz.results22, go_sem]) rfl ⟨.inl ⟨_, _, hR'.out.symm, rfl⟩, hb2'.out⟩
          · rw [if_neg (fun h => h2 h.2)] at hR
            have hR' := Lib.hid hR
            have h2b : (q2 != 0) = true := by rw [bne_iff_ne]; exact h2
            clear hR h2
            go_enter Tryz.func22, Tryz.ntmps22
            go_wp2_with (first
              | (go_at_call 33; (with_reducible refine Calls.mono hpr.out ?_); rintro r w2 ⟨v2, rfl, hs2, hb2⟩; obtain ⟨A2, g2, c2, cur2, rfl, hin⟩ := hs2.shape; have x2 := hk'.out.below hb2 hk'.out.lt; have x20 := x2.cell 0; have x21 := x2.cell 1; have x22 := x2.cell 2; have hb2' := Lib.hid (hb1'.out.trans (hb2.mono (by simp))); obtain ⟨rfl, _, hrow⟩ := hin.1 (by simp); have r0 := hrow.cell 0; have r1 := hrow.cell 1; rw [hin.2 0 p rfl] at r0; rw [hin.2 1 q rfl] at r1; simp only [List.length_cons, List.length_nil, Nat.reduceAdd]; clear hs2 hb2 x2)
              | (go_at_call 42; (with_reducible refine Calls.mono (hpp.out _) ?_); rintro r w3 ⟨rfl, rfl⟩)
              | (go_at_call 42; (with_reducible refine Calls.mono (hqq.out _) ?_); rintro r w3 ⟨rfl, rfl⟩))
            exact bodyPost_ret (v := .tuple #[.int .u64 0, .int .u64 0, .int .i64 170]) (by simp [results, Tryz.results22, go_sem]) rfl ⟨.inr ⟨hR'.out.symm, rfl⟩, hb2'.out⟩
        · rw [if_neg (fun h => h1 h.1)] at hR
          have hR' := Lib.hid hR
          have h1b : (p2 != 0) = true := by rw [bne_iff_ne]; exact h1
          clear hR h1
          go_enter Tryz.func22, Tryz.ntmps22
          go_wp2_with (first
              | (go_at_call 33; (with_reducible refine Calls.mono hpr.out ?_); rintro r w2 ⟨v2, rfl, hs2, hb2⟩; obtain ⟨A2, g2, c2, cur2, rfl, hin⟩ := hs2.shape; have x2 := hk'.out.below hb2 hk'.out.lt; have x20 := x2.cell 0; have x21 := x2.cell 1; have x22 := x2.cell 2; have hb2' := Lib.hid (hb1'.out.trans (hb2.mono (by simp))); obtain ⟨rfl, _, hrow⟩ := hin.1 (by simp); have r0 := hrow.cell 0; have r1 := hrow.cell 1; rw [hin.2 0 p rfl] at r0; rw [hin.2 1 q rfl] at r1; simp only [List.length_cons, List.length_nil, Nat.reduceAdd]; clear hs2 hb2 x2)
              | (go_at_call 42; (with_reducible refine Calls.mono (hpp.out _) ?_); rintro r w3 ⟨rfl, rfl⟩)
              | (go_at_call 42; (with_reducible refine Calls.mono (hqq.out _) ?_); rintro r w3 ⟨rfl, rfl⟩))
          exact bodyPost_ret (v := .tuple #[.int .u64 0, .int .u64 0, .int .i64 170]) (by simp [results, Tryz.results22, go_sem]) rfl ⟨.inr ⟨hR'.out.symm, rfl⟩, hb2'.out⟩
      | [], hR, hpr, hpm, hpl =>
        have hR' := Lib.hid (show none = R from hR)
        clear hR hpm hpl hps
        unfold resetT at *
        go_enter Tryz.func22, Tryz.ntmps22
        go_wp2_with (go_at_call 33; (with_reducible refine Calls.mono hpr.out ?_); rintro r w2 ⟨v2, rfl, hs2, hb2⟩; obtain ⟨A2, g2, c2, cur2, rfl, hin⟩ := hs2.shape; have x2 := hk'.out.below hb2 hk'.out.lt; have x20 := x2.cell 0; have x21 := x2.cell 1; have x22 := x2.cell 2; have hb2' := Lib.hid (hb1'.out.trans (hb2.mono (by simp))); simp only [List.length_nil]; clear hs2 hb2 x2)
        exact bodyPost_ret (v := .tuple #[.int .u64 0, .int .u64 0, .int .i64 170]) (by simp [results, Tryz.results22, go_sem]) rfl ⟨.inr ⟨hR'.out.symm, rfl⟩, hb2'.out⟩
      | [p], hR, hpr, hpm, hpl =>
        have hR' := Lib.hid (show none = R from hR)
        clear hR hpm hpl hps
        unfold resetT at *
        go_enter Tryz.func22, Tryz.ntmps22
        go_wp2_with (go_at_call 33; (with_reducible refine Calls.mono hpr.out ?_); rintro r w2 ⟨v2, rfl, hs2, hb2⟩; obtain ⟨A2, g2, c2, cur2, rfl, hin⟩ := hs2.shape; have x2 := hk'.out.below hb2 hk'.out.lt; have x20 := x2.cell 0; have x21 := x2.cell 1; have x22 := x2.cell 2; have hb2' := Lib.hid (hb1'.out.trans (hb2.mono (by simp))); simp only [List.length_cons, List.length_nil, Nat.reduceAdd]; clear hs2 hb2 x2)
        exact bodyPost_ret (v := .tuple #[.int .u64 0, .int .u64 0, .int .i64 170]) (by simp [results, Tryz.results22, go_sem]) rfl ⟨.inr ⟨hR'.out.symm, rfl⟩, hb2'.out⟩
      | p :: q :: s :: l, hR, hpr, hpm, hpl =>
        have hR' := Lib.hid (show none = R from hR)
        clear hR hpm hpl hps
        unfold resetT at *
        obtain ⟨n, hn⟩ : ∃ n, (p :: q :: s :: l).length = n := ⟨_, rfl⟩
        have hn2 : ((n : Int) != 2) = true := by rw [bne_iff_ne]; simp only [List.length_cons] at hn; omega
        have hn' := Lib.hid hn
        clear hn
        go_enter Tryz.func22, Tryz.ntmps22
        go_wp2_with (go_at_call 33; (with_reducible refine Calls.mono hpr.out ?_); rintro r w2 ⟨v2, rfl, hs2, hb2⟩; obtain ⟨A2, g2, c2, cur2, rfl, hin⟩ := hs2.shape; have x2 := hk'.out.below hb2 hk'.out.lt; have x20 := x2.cell 0; have x21 := x2.cell 1; have x22 := x2.cell 2; have hb2' := Lib.hid (hb1'.out.trans (hb2.mono (by simp))); rw [hn'.out]; clear hs2 hb2 x2)
        exact bodyPost_ret (v := .tuple #[.int .u64 0, .int .u64 0, .int .i64 170]) (by simp [results, Tryz.results22, go_sem]) rfl ⟨.inr ⟨hR'.out.symm, rfl⟩, hb2'.out⟩
    · rw [if_neg (fun h => hb h.2)] at hR
      subst ha
      have hR' := Lib.hid hR
      have hbb : (b == resetT) = false := by rw [beq_eq_false_iff_ne]; exact hb
      have hbb2 : (!(b == resetT)) = true := by rw [hbb]; rfl
      clear hR hb hpm hpl hps
      unfold resetT at *
      go_enter Tryz.func22, Tryz.ntmps22
      go_wp2_with (go_at_call 33; (with_reducible refine Calls.mono hpr.out ?_); rintro r w2 ⟨v2, rfl, hs2, hb2⟩; obtain ⟨A2, g2, c2, cur2, rfl, hin⟩ := hs2.shape; have x2 := hk'.out.below hb2 hk'.out.lt; have x20 := x2.cell 0; have x21 := x2.cell 1; have x22 := x2.cell 2; have hb2' := Lib.hid (hb1'.out.trans (hb2.mono (by simp)));  clear hs2 hb2 x2)
      exact bodyPost_ret (v := .tuple #[.int .u64 0, .int .u64 0, .int .i64 170]) (by simp [results, Tryz.results22, go_sem]) rfl ⟨.inr ⟨hR'.out.symm, rfl⟩, hb2'.out⟩
  · rw [if_neg (fun h => ha h.1)] at hR
    have hR' := Lib.hid hR
    have hae : a.isEmpty = false := by cases a with
      | nil => exact absurd rfl ha
      | cons x r => rfl
    clear hR ha hpm hpl hps
    go_enter Tryz.func22, Tryz.ntmps22
    go_wp2_with (go_at_call 33; (with_reducible refine Calls.mono hpr.out ?_); rintro r w2 ⟨v2, rfl, hs2, hb2⟩; obtain ⟨A2, g2, c2, cur2, rfl, hin⟩ := hs2.shape; have x2 := hk'.out.below hb2 hk'.out.lt; have x20 := x2.cell 0; have x21 := x2.cell 1; have x22 := x2.cell 2; have hb2' := Lib.hid (hb1'.out.trans (hb2.mono (by simp)));  clear hs2 hb2 x2)
    exact bodyPost_ret (v := .tuple #[.int .u64 0, .int .u64 0, .int .i64 170]) (by simp [results, Tryz.results22, go_sem]) rfl ⟨.inr ⟨hR'.out.symm, rfl⟩, hb2'.out⟩
end Go.Proofs.YtlbiniibkbhghaaGreatDoor

namespace Go.Proofs.YtlbiniibkbhghaaGreatDoor
open Go.RowKit Go.Shelf
attribute [local go_sem] Oper.semAt_some
attribute [local go_sem] wide_fn wide_depth wide_round

/-! ## EventResets -/
set_option maxRecDepth 100000 in
set_option maxHeartbeats 2000000 in
theorem res_far (t : List UInt8) (y z : Int) (x : Ev) (w : World) (ht : t.length ≤ 140737488351232) (hx : WideE x) (hT : EvT w) (hD : Tab w) (h : ¬ (t.length ≤ 300 ∧ fewE x)) : Calls Tryz.prog 5 #[.string ⟨t.toArray⟩, .int .u64 y, .int .u64 z, evV x] w fun r w' => r = .returned (.bool true) ∧ Below w.heap.size w w' := by
  have hb3 : Below w.heap.size w (w.alloc (.cells (evCells x) 23)) := (Below.refl _ _).alloc (Nat.le_refl _) _
  have hfx := Lib.hid (fun W (hb : Below w.heap.size w W) => carryE w W hb (few_any x W hx))
  have hwk := Lib.hid (fun W (hb : Below w.heap.size w W) => carryE w W hb (worksE_any W (hT.below hb) (hD.below hb)))
  have hb3' := Lib.hid hb3
  unfold evV evCells at *
  by_cases h1 : t.length ≤ 300
  · have h2 : ¬ fewE x := fun h2 => h ⟨h1, h2⟩
    rw [decide_eq_false h2] at hfx
    have q0 : decide ((300 : Int) < (t.length : Int)) = false := decide_eq_false (by omega)
    have q1 : decide (300 < t.length) = false := decide_eq_false (by omega)
    clear hb3 hT hD hx h h1 h2 ht
    go_enter Tryz.func5, Tryz.ntmps5
    go_wp2_with (first
      | (go_at_call 7; (with_reducible refine Calls.mono (hfx.out _ hb3'.out) ?_); rintro r w4 ⟨rfl, hc4, hb4⟩; have hb4' := Lib.hid hb4; clear hc4 hb4)
      | (go_at_call 8; (with_reducible refine Calls.mono (hwk.out _ hb4'.out) ?_); rintro r w6 ⟨rfl, hc6, hb6⟩; have hb6' := Lib.hid hb6; clear hc6 hb6))
    go_ret
    exact ⟨rfl, hb6'.out⟩
  · have q0 : decide ((300 : Int) < (t.length : Int)) = true := decide_eq_true (by omega)
    have q1 : decide (300 < t.length) = true := decide_eq_true (by omega)
    have q2 : (300 : Int) < (t.length : Int) := by omega
    clear hb3 hT hD hx h h1 ht hfx
    go_enter Tryz.func5, Tryz.ntmps5
    go_wp2_with (go_at_call 8; (with_reducible refine Calls.mono (hwk.out _ hb3'.out) ?_); rintro r w6 ⟨rfl, hc6, hb6⟩; have hb6' := Lib.hid hb6; clear hc6 hb6)
    go_ret
    exact ⟨rfl, hb6'.out⟩
def cmP (t : List UInt8) : List UInt8 × Int := if okC t = true then (comL t, 0) else ([], 2)
def resP (e : Ev) : Int × Int × Int := match resE e with
  | some (a, b) => (a, b, 0)
  | none => (0, 0, 170)
theorem comment_is (t : List UInt8) (w0 w : World) (hb : Below w0.heap.size w0 w) (hl : t.length ≤ 300) (hT : EvT w0) : Calls Tryz.prog 18 #[.string ⟨t.toArray⟩] w fun r w' => ∃ A m c, r = .returned (.tuple #[.slice A m c, .int .i64 (cmP t).2]) ∧ Bs w' w.heap.size (.slice A m c) (cmP t).1 ∧ Below w.heap.size w w' ∧ Below w0.heap.size w0 w' := by
  refine (comment_any t w (by omega) (hT.below hb)).mono ?_
  rintro r w' ⟨⟨h, v, rfl, hv⟩ | ⟨h, rfl⟩, hb2⟩
  · obtain ⟨A, m, c, rfl⟩ := bs_slice hv
    unfold cmP
    rw [if_pos h]
    exact ⟨A, m, c, rfl, hv, hb2, hb.trans (hb2.mono hb.size)⟩
  · unfold cmP
    rw [if_neg (by rw [h]; decide)]
    exact ⟨none, 0, 0, rfl, bs_nil0 _ _, hb2, hb.trans (hb2.mono hb.size)⟩
theorem refComment_is (t : List UInt8) (w0 w : World) (hb : Below w0.heap.size w0 w) (hl : t.length ≤ 300) : Calls Tryz.prog 19 #[.string ⟨t.toArray⟩] w fun r w' => r = .returned (.tuple #[.string ⟨(cmP t).1.toArray⟩, .int .i64 (cmP t).2]) ∧ Below w.heap.size w w' ∧ Below w0.heap.size w0 w' := by
  refine (refComment_any t w hl).mono ?_
  rintro r w' ⟨⟨h, rfl⟩ | ⟨h, rfl⟩, hb2⟩
  · unfold cmP
    rw [if_pos h]
    exact ⟨rfl, hb2, hb.trans (hb2.mono hb.size)⟩
  · unfold cmP
    rw [if_neg (by rw [h]; decide)]
    exact ⟨rfl, hb2, hb.trans (hb2.mono hb.size)⟩
theorem resP_of {P : Program} {k : FuncId} {args : Array Value} (e : Ev) (w0 w : World) (hb : Below w0.heap.size w0 w) (h : Calls P k args w (ResetsR e w)) : Calls P k args w fun r w' => r = .returned (.tuple #[.int .u64 (resP e).1, .int .u64 (resP e).2.1, .int .i64 (resP e).2.2]) ∧ Below w.heap.size w w' ∧ Below w0.heap.size w0 w' := by
  refine h.mono ?_
  rintro r w' ⟨⟨a, b, h, rfl⟩ | ⟨h, rfl⟩, hb2⟩
  · unfold resP
    rw [h]
    exact ⟨rfl, hb2, hb.trans (hb2.mono hb.size)⟩
  · unfold resP
    rw [h]
    exact ⟨rfl, hb2, hb.trans (hb2.mono hb.size)⟩
theorem reset_is (x y : Nat) (hx : x < 18446744073709551616) (hy : y < 18446744073709551616) (w0 w : World) (hb : Below w0.heap.size w0 w) (hD : Tab w0) : Calls Tryz.prog 20 #[.int .u64 x, .int .u64 y] w fun r w' => ∃ K1 K2, IsLen 10 x K1 ∧ IsLen 10 y K2 ∧ r = .returned (evV (rsE x y K1 K2)) ∧ Below w.heap.size w w' ∧ Below w0.heap.size w0 w' := by
  refine (reset_any x y hx hy w (hD.below hb)).mono ?_
  rintro r w' ⟨K1, K2, h1, h2, rfl, hb2⟩
  exact ⟨K1, K2, h1, h2, rfl, hb2, hb.trans (hb2.mono hb.size)⟩
set_option maxRecDepth 100000 in
set_option maxHeartbeats 8000000 in
theorem res_near (t : List UInt8) (y z : Nat) (x : Ev) (w : World) (hy : y < 18446744073709551616) (hz : z < 18446744073709551616) (ht : t.length ≤ 300) (hx : fewE x) (hT : EvT w) (hD : Tab w) : Calls Tryz.prog 5 #[.string ⟨t.toArray⟩, .int .u64 y, .int .u64 z, evV x] w fun r w' => r = .returned (.bool true) ∧ Below w.heap.size w w' := by
  have hb3 : Below w.heap.size w (w.alloc (.cells (evCells x) 23)) := (Below.refl _ _).alloc (Nat.le_refl _) _
  have hfx := Lib.hid (fun W (hb : Below w.heap.size w W) => carryE w W hb (few_any x W (wide_of hx)))
  have hwk := Lib.hid (fun W (hb : Below w.heap.size w W) => carryE w W hb (worksE_any W (hT.below hb) (hD.below hb)))
  have hcm := Lib.hid (fun W (hb : Below w.heap.size w W) => comment_is t w W hb ht hT)
  have hrc := Lib.hid (fun W (hb : Below w.heap.size w W) => refComment_is t w W hb ht)
  have hrt := Lib.hid (fun W (hb : Below w.heap.size w W) => reset_is y z hy hz w W hb hD)
  have hx3 := hx.2.2
  have hrx := Lib.hid (fun W (hb : Below w.heap.size w W) => resP_of x w W hb (resets_any x W (by omega) (hD.below hb) (hT.below hb).mx))
  have hrr := Lib.hid (fun W (hb : Below w.heap.size w W) => resP_of x w W hb (refResets_any x W hx3))
  have hkx := Lib.hid (Has.new w 23 (evCells x))
  have hb3' := Lib.hid hb3
  rw [decide_eq_true hx] at hfx
  have hT' := Lib.hid hT
  have hD' := Lib.hid hD
  have q0 : decide ((300 : Int) < (t.length : Int)) = false := decide_eq_false (by omega)
  have q1 : decide (300 < t.length) = false := decide_eq_false (by omega)
  obtain ⟨⟨cs, cn⟩, hcp⟩ : ∃ p, cmP t = p := ⟨_, rfl⟩
  obtain ⟨⟨ra, rb, rn⟩, hrp⟩ : ∃ p, resP x = p := ⟨_, rfl⟩
  rw [hcp] at hcm hrc
  rw [hrp] at hrx hrr
  simp only at hcm hrc hrx hrr
  have hy' := Lib.hid hy
  have hz' := Lib.hid hz
  clear hb3 hT hD hx hx3 ht hcp hrp hy hz
  unfold evV evCells at *
  go_enter Tryz.func5, Tryz.ntmps5
  go_upto_region 6 with (first
    | (go_at_call 7; (with_reducible refine Calls.mono (hfx.out _ hb3'.out) ?_); rintro r w4 ⟨rfl, hc4, hb4⟩; have hb4' := Lib.hid hb4; have hx4 := Lib.hid (hkx.out.below hc4 hkx.out.lt); clear hc4 hb4)
    | (go_at_call 18; (with_reducible refine Calls.mono (hcm.out _ hb4'.out) ?_); rintro r w5 ⟨A5, m5, c5, rfl, hv5, hc5, hb5⟩; have hb5' := Lib.hid hb5; have hx5 := Lib.hid (hx4.out.below hc5 hx4.out.lt); have hv5' := Lib.hid hv5; clear hc5 hb5 hv5)
    | (go_at_call 19; (with_reducible refine Calls.mono (hrc.out _ hb5'.out) ?_); rintro r w6 ⟨rfl, hc6, hb6⟩; have hb6' := Lib.hid hb6; have hx6 := Lib.hid (hx5.out.below hc6 hx5.out.lt); have hv6 := Lib.hid (hv5'.out.below hc6); clear hc6 hb6)
    | (go_at_call 20; (with_reducible refine Calls.mono (hrt.out _ hb6'.out) ?_); rintro r w7 ⟨K1, K2, hk1, hk2, rfl, hc7, hb7⟩; have hb7' := Lib.hid hb7; have hx7 := Lib.hid (hx6.out.below hc7 hx6.out.lt); have hv7 := Lib.hid (hv6.out.below hc7); have hk1' := Lib.hid hk1; have hk2' := Lib.hid hk2; clear hc7 hb7 hk1 hk2))
  have hrst := refReset_any hy'.out hz'.out hk1'.out hk2'.out
  have hres := rsE_res hy'.out hz'.out hk1'.out hk2'.out
  have hrig := rsE_right hy'.out hz'.out hk1'.out hk2'.out
  have hlen := rsE_len hy'.out hz'.out hk1'.out hk2'.out
  obtain ⟨Y, hY⟩ : ∃ Y, rsE y z K1 K2 = Y := ⟨_, rfl⟩
  have hty : Y.2.1 = resetT := by rw [← hY]; rfl
  have hsh : ShortE Y := by
    rw [← hY]
    exact ⟨by simp [rsE], by simp [rsE, resetT], by show (txt 10 y K1 ++ 32 :: txt 10 z K2).length ≤ _; omega⟩
  rw [hY] at hrst hres hrig ⊢
  have hb8 := Lib.hid (hb7'.out.alloc hb7'.out.size (.cells (evCells Y) 23))
  have hb78 : Below w7.heap.size w7 (w7.alloc (.cells (evCells Y) 23)) := (Below.refl _ _).alloc (Nat.le_refl _) _
  have hk8 := Lib.hid (Has.new w7 23 (evCells Y))
  have hx8 := Lib.hid (hx7.out.below hb78 hx7.out.lt)
  have hv8 := Lib.hid (hv7.out.below hb78)
  have hry := Lib.hid (fun W (hb : Below w.heap.size w W) => resP_of Y w W hb (resets_any Y W (by obtain ⟨_, _, h⟩ := hsh; have : Y.2.2.length ≤ 41 := (by rw [← hY]; exact hlen); omega) (hD'.out.below hb) (hT'.out.below hb).mx))
  have hrpy : resP Y = ((y : Int), (z : Int), 0) := by unfold resP; rw [hres]
  rw [hrpy] at hry
  have hck := Lib.hid (fun W (hb : Below w.heap.size w W) => check_any Y W hsh (hT'.out.below hb))
  have herr : errE Y = 0 := by unfold errE; rw [hrig]; rfl
  rw [herr] at hck
  have hrv := Lib.hid (fun W => reserved_any Y W)
  rw [hty, show (resetT == resetT) = true from beq_iff_eq.2 rfl] at hrv
  have heq := fun W => event_equal Y Y W
  rw [decide_eq_true rfl] at heq
  have hrst' := Lib.hid hrst
  clear hrst hres hrig hlen hY hty hrpy herr hb78 hcm hrc hrt hb3' hb4' hb5' hb6' hb7' hx4 hx5 hx6 hx7 hv5' hv6 hv7 hkx hfx hk1' hk2' hy' hz'
  unfold evV evCells at *
  obtain ⟨w8, hw8⟩ : ∃ w8, w7.alloc (.cells #[.string ⟨Y.1.toArray⟩, .string ⟨Y.2.1.toArray⟩, .string ⟨Y.2.2.toArray⟩] 23) = w8 := ⟨_, rfl⟩
  rw [hw8] at hb8 hk8 hx8 hv8 ⊢
  clear hw8
  have y0 := hk8.out.cell 0
  have y1 := hk8.out.cell 1
  have y2 := hk8.out.cell 2
  go_upto_region 9 with (first
    | (go_at_call 21; (with_reducible refine Calls.mono (hry.out _ hb8.out) ?_); rintro r w9 ⟨rfl, hc9, hb9⟩; have hb9' := Lib.hid hb9; have hx9 := Lib.hid (hx8.out.below hc9 hx8.out.lt); have hk9 := Lib.hid (hk8.out.below hc9 hk8.out.lt); have hv9 := Lib.hid (hv8.out.below hc9); have z0 := hx9.out.cell 0; have z1 := hx9.out.cell 1; have z2 := hx9.out.cell 2; clear hc9 hb9)
    | (go_at_call 21; (with_reducible refine Calls.mono (hrx.out _ hb9'.out) ?_); rintro r w10 ⟨rfl, hc10, hb10⟩; have hb10' := Lib.hid hb10; have hx10 := Lib.hid (hx9.out.below hc10 hx9.out.lt); have hk10 := Lib.hid (hk9.out.below hc10 hk9.out.lt); have hv10 := Lib.hid (hv9.out.below hc10); have x0 := hx10.out.cell 0; have x1 := hx10.out.cell 1; have x2 := hx10.out.cell 2; clear hc10 hb10 z0 z1 z2)
    | (go_at_call 22; (with_reducible refine Calls.mono (hrr.out _ hb10'.out) ?_); rintro r w11 ⟨rfl, hc11, hb11⟩; have hb11' := Lib.hid hb11; have hk11 := Lib.hid (hk10.out.below hc11 hk10.out.lt); have hv11 := Lib.hid (hv10.out.below hc11); clear hc11 hb11 x0 x1 x2))
  clear y0 y1 y2
  have x0 := fun (V' : Grown w11) => (hk11.out.below V'.below hk11.out.lt).cell 0
  have x1 := fun (V' : Grown w11) => (hk11.out.below V'.below hk11.out.lt).cell 1
  have x2 := fun (V' : Grown w11) => (hk11.out.below V'.below hk11.out.lt).cell 2
  have cv := fun (V' : Grown w11) => bs_conv (hv11.out.below V'.below)
  have c1 := Lib.hid (fun (V' : Grown w11) => callsIn_wide (n := 3 - 1).2 (grow_call V' (hrst'.out V'.v)))
  have c2 := Lib.hid (fun (V' : Grown w11) (z : Int) => callsIn_wide (n := 3 - 1).2 (grow_call V' ((numE_any z V'.v).mono fun e w' h => ⟨h.1, h.2 ▸ Below.refl _ _⟩)))
  have c3 := Lib.hid (fun (V' : Grown w11) => callsIn_wide (n := 3 - 1).2 (grow_call V' ((hwk.out V'.v (hb11'.out.trans (V'.below.mono hb11'.out.size))).mono fun e w' h => ⟨h.1, h.2.1⟩)))
  have c4 := Lib.hid (fun (V' : Grown w11) => callsIn_wide (n := 3 - 1).2 (grow_call V' (hck.out V'.v (hb11'.out.trans (V'.below.mono hb11'.out.size)))))
  have c5 := Lib.hid (fun (V' : Grown w11) => callsIn_wide (n := 3 - 1).2 (grow_call V' (hrv.out V'.v)))
  refine (wpIn_wide (n := 3)).1 ?_
  refine wpIn_region_grow (by kernel_rfl) (by kernel_rfl) (by kernel_rfl) ?_
  iterate 62 (gi_big_quiet_step (first
    | (gi_at_call 23; exact c1.out _)
    | (gi_at_call 14; exact c2.out _ _)
    | (gi_at_call 8; exact c3.out _)
    | (gi_at_call 11; exact c4.out _)
    | (gi_at_call 12; exact c5.out _)))
  refine wpQuietIn_nil ?_
  intro _ hw'
  obtain ⟨V', hw''⟩ := hw'
  subst hw''
  have hbV := Lib.hid (hb11'.out.trans (V'.below.mono hb11'.out.size))
  clear x0 x1 x2 cv
  go_wp2
  go_ret
  exact ⟨rfl, hbV.out⟩
end Go.Proofs.YtlbiniibkbhghaaGreatDoor
