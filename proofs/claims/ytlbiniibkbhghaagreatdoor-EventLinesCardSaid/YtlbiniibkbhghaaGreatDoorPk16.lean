import Derived.Test.YtlbiniibkbhghaaGreatDoorPk15
import Derived.BigQuiet
namespace Go.Proofs.YtlbiniibkbhghaaGreatDoor
open Go.RowKit

/-! ## The document's span of first bytes, walked -/
def SpanOf (x : List UInt8) (w : World) (e : Ending) (w' : World) : Prop :=
  e = .returned (.tuple (if spanOk x then #[.int .i64 (manyN (at0 x 0)), .int .i64 (lowN x (manyN (at0 x 0) - 1)), .int .i64 (topN x (manyN (at0 x 0) - 1)), .bool true] else #[.int .i64 0, .int .i64 0, .int .i64 0, .bool false])) ∧ Below w.heap.size w w'
theorem rd_at {w : World} {S : Nat → Prop} {ad : Addr} {x : List UInt8} (h : Rd w S (some ad) x) {j : Nat} (hj : j < x.length) : w.cell? (ad.add j) = some (.int .u8 (at0 x j : Nat)) := by
  obtain ⟨ad', e, _, hc⟩ := h (by omega)
  obtain rfl := Option.some.inj e
  refine hc j _ ?_
  unfold byts byt at0
  rw [List.getElem?_map, List.getElem?_eq_getElem hj, List.getD_eq_getElem?_getD, List.getElem?_eq_getElem hj]
  rfl
theorem rd_at0 {w : World} {S : Nat → Prop} {ad : Addr} {x : List UInt8} (h : Rd w S (some ad) x) (hj : 0 < x.length) : w.cell? ad = some (.int .u8 (at0 x 0 : Nat)) := by
  have := rd_at h hj
  rwa [show ad.add 0 = ad by cases ad; unfold Addr.add; split <;> simp_all] at this
set_option maxRecDepth 100000 in
set_option maxHeartbeats 2000000 in
theorem span_none (S : Nat → Prop) (ad : Addr) (x : List UInt8) (n c : Nat) (w : World) (h : Rd w S (some ad) x) (hn : n = x.length) (h1 : 1 ≤ x.length) (_hc : n ≤ c) (_hc' : c ≤ 9223372036854775807) (h0 : manyN (at0 x 0) = 0) :
    Calls Tryz.prog 108 #[.slice (some ad) n c] w (SpanOf x w) := by
  have a0 := rd_at0 h (by omega)
  have hsp : spanOk x = false := by unfold spanOk; rw [h0]; simp
  have hq := lt256 (x.getD 0 0)
  change at0 x 0 < 256 at hq
  have hr : (128 ≤ at0 x 0 ∧ at0 x 0 < 192) ∨ 248 ≤ at0 x 0 := by
    unfold manyN at h0
    (repeat' split at h0) <;> omega
  generalize hc0 : at0 x 0 = q at a0 hr hq
  have hi : (1 : Int) ≤ (n : Int) := by omega
  clear h hn h1 h0 hc0
  rcases hr with ⟨g1, g2⟩ | g1
  · have i1 : (128 : Int) ≤ (q : Int) := by omega
    have i2 : (q : Int) < 192 := by omega
    go_enter Tryz.func108, Tryz.ntmps108
    go_wp2
    refine bodyPost_ret (v := .tuple #[.int .i64 0, .int .i64 0, .int .i64 0, .bool false]) (by simp [results, Tryz.results108, go_sem]) rfl ⟨?_, Below.refl _ _⟩
    rw [hsp]; rfl
  · have i1 : (248 : Int) ≤ (q : Int) := by omega
    have i2 : (q : Int) < 256 := by omega
    go_enter Tryz.func108, Tryz.ntmps108
    go_wp2
    refine bodyPost_ret (v := .tuple #[.int .i64 0, .int .i64 0, .int .i64 0, .bool false]) (by simp [results, Tryz.results108, go_sem]) rfl ⟨?_, Below.refl _ _⟩
    rw [hsp]; rfl
theorem low_lt (x : List UInt8) : ∀ i, lowN x i < 256 * 64 ^ i ∧ topN x i < 256 * 64 ^ i
  | 0 => by
    have : firstN (at0 x 0) < 256 := by
      have := lt256 (x.getD 0 0)
      change at0 x 0 < 256 at this
      unfold firstN
      (repeat' split) <;> omega
    exact ⟨by show firstN (at0 x 0) < _; omega, by show firstN (at0 x 0) < _; omega⟩
  | i + 1 => by
    obtain ⟨h1, h2⟩ := low_lt x i
    rw [Nat.pow_succ]
    generalize 64 ^ i = p at h1 h2 ⊢
    constructor
    · show 64 * lowN x i + _ < _
      split <;> omega
    · show 64 * topN x i + _ < _
      split <;> omega
theorem low_lt3 (x : List UInt8) {i : Nat} (h : i ≤ 3) : lowN x i < 67108864 ∧ topN x i < 67108864 := by
  have := low_lt x i
  have : (64 : Nat) ^ i ≤ 64 ^ 3 := Nat.pow_le_pow_right (by omega) h
  omega
theorem span_stop {x : List UInt8} {m i : Nat} (hm : manyN (at0 x 0) = m) (hi : i + 2 ≤ m) (h : ¬ contN x (i + 1) = true) : spanOk x = false := by
  unfold spanOk
  rw [hm]
  have : ∀ k, contN x (i + 1 + k) = true → contN x (i + 1) = true := by
    intro k
    induction k with
    | zero => exact id
    | succ k ih => intro hh; refine ih ?_; rw [show i + 1 + (k + 1) = (i + 1 + k) + 1 from rfl, contN, Bool.and_eq_true] at hh; exact hh.1
  obtain ⟨k, hk⟩ : ∃ k, m - 1 = i + 1 + k := ⟨m - 1 - (i + 1), by omega⟩
  rw [hk]
  cases hc : contN x (i + 1 + k) with
  | false => simp
  | true => exact absurd (this k hc) h
set_option maxRecDepth 100000 in
set_option maxHeartbeats 4000000 in
theorem span_1 (ad : Addr) (x : List UInt8) (n c : Nat) (w : World) (h : Rd w (· < w.heap.size) (some ad) x) (hn : n = x.length) (h1 : 1 ≤ x.length) (_hc : n ≤ c) (_hc' : c ≤ 9223372036854775807) (h0 : manyN (at0 x 0) = 1) :
    Calls Tryz.prog 108 #[.slice (some ad) n c] w (SpanOf x w) := by
  have a0 := rd_at0 h (by omega)
  have hat := Lib.hid (fun (W : World) (hb : Below w.heap.size w W) (j : Nat) (hj : j < x.length) => rd_at (h.kept (Kept.below hb (fun b hb => hb))) hj)
  have hq := lt256 (x.getD 0 0)
  change at0 x 0 < 256 at hq
  have hr : at0 x 0 < 128 := by
    unfold manyN at h0
    (repeat' split at h0) <;> omega
  have hf : firstN (at0 x 0) = at0 x 0 := by
    unfold firstN
    (repeat' split) <;> omega
  have hlow := Lib.hid (show lowN x 0 = at0 x 0 from hf)
  have htop := Lib.hid (show topN x 0 = at0 x 0 from hf)
  have h0' := Lib.hid h0
  have hn' := Lib.hid hn
  generalize hc0 : at0 x 0 = q at a0 hr hq hlow htop
  have hi : (1 : Int) ≤ (n : Int) := by omega
  clear h hn h1 h0 hc0 hf
  have i2 : (q : Int) < 128 := by omega
  go_enter Tryz.func108, Tryz.ntmps108
  go_wp2
  go_loopw [8, 9, 10] (fun a b d W => ∃ i : Nat, a = .int .i64 (lowN x i : Int) ∧ b = .int .i64 (topN x i : Int) ∧ d = .int .i64 ((i + 1 : Nat) : Int) ∧ i + 1 ≤ 1 ∧ contN x i = true ∧ Below w.heap.size w W) (fun _ _ d _ => 5 - (intOf d).toNat)
  case atStart =>
    refine ⟨0, by rw [hlow.out]; skip, by rw [htop.out]; skip, rfl, by omega, rfl, Below.refl _ _⟩
  case round =>
    obtain ⟨i, rfl, rfl, rfl, hi4, hcn, hbw⟩ := hrel
    have hbw' := Lib.hid hbw
    have hb3 := low_lt3 x (i := i) (by omega)
    have hcn' := Lib.hid hcn
    clear hcn a0 hbw
    by_cases him : i + 1 < 1
    · omega
    · obtain rfl : i = 1 - 1 := by omega
      have h4 := h0'.out
      have hb3' := Lib.hid hb3
      clear hb3 him hi4
      generalize hl : ((lowN x (1 - 1) : Nat) : Int) = lo
      generalize ht : ((topN x (1 - 1) : Nat) : Int) = tq
      have hl' := Lib.hid hl
      have ht' := Lib.hid ht
      clear hl ht
      go_wp2
      refine bodyPost_ret (v := .tuple #[.int .i64 1, .int .i64 lo, .int .i64 tq, .bool true]) (by simp [results, Tryz.results108, go_sem]) rfl ⟨?_, hbw'.out⟩
      have hsp : spanOk x = true := by
        have := hcn'.out
        unfold spanOk
        rw [h0'.out]
        simpa using this
      rw [hsp, if_pos rfl, h0'.out, hl'.out, ht'.out]
      rfl
set_option maxRecDepth 100000 in
set_option maxHeartbeats 4000000 in
theorem span_2 (ad : Addr) (x : List UInt8) (n c : Nat) (w : World) (h : Rd w (· < w.heap.size) (some ad) x) (hn : n = x.length) (h1 : 1 ≤ x.length) (_hc : n ≤ c) (_hc' : c ≤ 9223372036854775807) (h0 : manyN (at0 x 0) = 2) :
    Calls Tryz.prog 108 #[.slice (some ad) n c] w (SpanOf x w) := by
  have a0 := rd_at0 h (by omega)
  have hat := Lib.hid (fun (W : World) (hb : Below w.heap.size w W) (j : Nat) (hj : j < x.length) => rd_at (h.kept (Kept.below hb (fun b hb => hb))) hj)
  have hq := lt256 (x.getD 0 0)
  change at0 x 0 < 256 at hq
  have hr : 192 ≤ at0 x 0 ∧ at0 x 0 < 224 := by
    unfold manyN at h0
    (repeat' split at h0) <;> omega
  have hf : firstN (at0 x 0) = at0 x 0 % 32 := by
    unfold firstN
    (repeat' split) <;> omega
  have hlow := Lib.hid (show lowN x 0 = at0 x 0 % 32 from hf)
  have htop := Lib.hid (show topN x 0 = at0 x 0 % 32 from hf)
  have h0' := Lib.hid h0
  have hn' := Lib.hid hn
  generalize hc0 : at0 x 0 = q at a0 hr hq hlow htop
  have hi : (1 : Int) ≤ (n : Int) := by omega
  clear h hn h1 h0 hc0 hf
  have i1 : (192 : Int) ≤ (q : Int) := by omega
  have i2 : (q : Int) < 224 := by omega
  go_enter Tryz.func108, Tryz.ntmps108
  go_wp2
  go_loopw [8, 9, 10] (fun a b d W => ∃ i : Nat, a = .int .i64 (lowN x i : Int) ∧ b = .int .i64 (topN x i : Int) ∧ d = .int .i64 ((i + 1 : Nat) : Int) ∧ i + 1 ≤ 2 ∧ contN x i = true ∧ Below w.heap.size w W) (fun _ _ d _ => 5 - (intOf d).toNat)
  case atStart =>
    refine ⟨0, by rw [hlow.out]; rfl, by rw [htop.out]; rfl, rfl, by omega, rfl, Below.refl _ _⟩
  case round =>
    obtain ⟨i, rfl, rfl, rfl, hi4, hcn, hbw⟩ := hrel
    have hbw' := Lib.hid hbw
    have hb3 := low_lt3 x (i := i) (by omega)
    have hcn' := Lib.hid hcn
    clear hcn a0 hbw
    by_cases him : i + 1 < 2
    · obtain ⟨j, hj⟩ : ∃ j, i + 1 = j := ⟨_, rfl⟩
      have hj' := Lib.hid hj
      have hlo : lowN x (i + 1) = 64 * lowN x i + (if i + 1 < x.length then at0 x (i + 1) % 64 else 0) := rfl
      have hto : topN x (i + 1) = 64 * topN x i + (if i + 1 < x.length then at0 x (i + 1) % 64 else 63) := rfl
      have hlo' := Lib.hid hlo
      have hto' := Lib.hid hto
      have j1 : (j : Int) < 2 := by omega
      have j2 : (1 : Int) ≤ (j : Int) := by omega
      rw [hj]
      have k1 : ((lowN x i : Nat) : Int) < 67108864 := by omega
      have k2 : (0 : Int) ≤ ((lowN x i : Nat) : Int) := by omega
      have k3 : ((topN x i : Nat) : Int) < 67108864 := by omega
      have k4 : (0 : Int) ≤ ((topN x i : Nat) : Int) := by omega
      clear hlo hto hb3 hj him
      generalize hl : ((lowN x i : Nat) : Int) = lo at k1 k2 ⊢
      generalize ht : ((topN x i : Nat) : Int) = tq at k3 k4 ⊢
      have hl' := Lib.hid hl
      have ht' := Lib.hid ht
      clear hl ht
      by_cases hix : x.length ≤ j
      · have g1 : (n : Int) ≤ (j : Int) := by have := hn'.out; omega
        have hix' := Lib.hid hix
        clear hix
        go_wp2
        refine ⟨⟨i + 1, ?_, ?_, ?_, by have := hj'.out; omega, ?_, hbw'.out⟩, by have := hj'.out; simp [intOf]; omega⟩
        · have := hlo'.out
          rw [if_neg (by have := hj'.out; have := hix'.out; omega)] at this
          exact congrArg (Value.int .i64) (by have := hl'.out; omega)
        · have := hto'.out
          rw [if_neg (by have := hj'.out; have := hix'.out; omega)] at this
          exact congrArg (Value.int .i64) (by have := ht'.out; omega)
        · exact congrArg (Value.int .i64) (by have := hj'.out; omega)
        · rw [contN, hcn'.out, decide_eq_true (show x.length ≤ i + 1 by have := hj'.out; have := hix'.out; omega)]; rfl
      · have hjn : j < x.length := by omega
        have a1 := hat.out _ hbw'.out j hjn
        have g1 : (j : Int) < (n : Int) := by have := hn'.out; omega
        have hjn' := Lib.hid hjn
        have hby := lt256 (x.getD j 0)
        change at0 x j < 256 at hby
        clear hix hjn
        generalize hy : at0 x j = y at a1 hby
        have hy' := Lib.hid hy
        clear hy
        by_cases hcc : 128 ≤ y ∧ y ≤ 191
        · have y1 : (128 : Int) ≤ (y : Int) := by omega
          have y2 : (y : Int) ≤ 191 := by omega
          go_wp2
          have w1 : IntKind.i64.wrap (64 * lo) = 64 * lo := IntWalk.i64_in _ (by omega)
          have w2 : IntKind.i64.wrap (64 * tq) = 64 * tq := IntWalk.i64_in _ (by omega)
          have w3 : (y : Int).tmod 64 = (y : Int) % 64 := IntWalk.rem_in _ _ (by omega)
          have w4 : IntKind.i64.wrap (64 * lo + (y : Int) % 64) = 64 * lo + (y : Int) % 64 := IntWalk.i64_in _ (by omega)
          have w5 : IntKind.i64.wrap (64 * tq + (y : Int) % 64) = 64 * tq + (y : Int) % 64 := IntWalk.i64_in _ (by omega)
          go_quiet (fail)
          clear w1 w2 w3 w4 w5
          go_wp2
          refine ⟨⟨i + 1, ?_, ?_, ?_, by have := hj'.out; omega, ?_, below_draws hbw'.out _⟩, by have := hj'.out; simp [intOf]; omega⟩
          · have := hlo'.out
            rw [if_pos (by have := hj'.out; have := hjn'.out; omega), hj'.out, hy'.out] at this
            rw [hj'.out]
            exact congrArg (Value.int .i64) (by have := hl'.out; omega)
          · have := hto'.out
            rw [if_pos (by have := hj'.out; have := hjn'.out; omega), hj'.out, hy'.out] at this
            rw [hj'.out]
            exact congrArg (Value.int .i64) (by have := ht'.out; omega)
          · exact congrArg (Value.int .i64) (by have := hj'.out; omega)
          · rw [contN, hcn'.out, hj'.out, hy'.out, decide_eq_true hcc.1, decide_eq_true hcc.2]; simp
        · have hno : ¬ contN x (i + 1) = true := by
            rw [contN, Bool.and_eq_true, Bool.or_eq_true, Bool.and_eq_true, decide_eq_true_iff, decide_eq_true_iff, decide_eq_true_iff, hj'.out, hy'.out]
            have := hjn'.out
            omega
          have hsp := span_stop h0'.out (by have := hj'.out; omega) hno
          have hyy : (y : Int) < 128 ∨ (128 : Int) ≤ (y : Int) ∧ (191 : Int) < (y : Int) := by omega
          have hsp' := Lib.hid hsp
          clear hcc hno hsp
          rcases hyy with y1 | ⟨y1, y2⟩
          all_goals
            go_wp2
            refine bodyPost_ret (v := .tuple #[.int .i64 0, .int .i64 0, .int .i64 0, .bool false]) (by simp [results, Tryz.results108, go_sem]) rfl ⟨?_, hbw'.out⟩
            rw [hsp'.out]; rfl
    · obtain rfl : i = 2 - 1 := by omega
      have h4 := h0'.out
      have hb3' := Lib.hid hb3
      clear hb3 him hi4
      generalize hl : ((lowN x (2 - 1) : Nat) : Int) = lo
      generalize ht : ((topN x (2 - 1) : Nat) : Int) = tq
      have hl' := Lib.hid hl
      have ht' := Lib.hid ht
      clear hl ht
      go_wp2
      refine bodyPost_ret (v := .tuple #[.int .i64 2, .int .i64 lo, .int .i64 tq, .bool true]) (by simp [results, Tryz.results108, go_sem]) rfl ⟨?_, hbw'.out⟩
      have hsp : spanOk x = true := by
        have := hcn'.out
        unfold spanOk
        rw [h0'.out]
        simpa using this
      rw [hsp, if_pos rfl, h0'.out, hl'.out, ht'.out]
      rfl
set_option maxRecDepth 100000 in
set_option maxHeartbeats 4000000 in
theorem span_3 (ad : Addr) (x : List UInt8) (n c : Nat) (w : World) (h : Rd w (· < w.heap.size) (some ad) x) (hn : n = x.length) (h1 : 1 ≤ x.length) (_hc : n ≤ c) (_hc' : c ≤ 9223372036854775807) (h0 : manyN (at0 x 0) = 3) :
    Calls Tryz.prog 108 #[.slice (some ad) n c] w (SpanOf x w) := by
  have a0 := rd_at0 h (by omega)
  have hat := Lib.hid (fun (W : World) (hb : Below w.heap.size w W) (j : Nat) (hj : j < x.length) => rd_at (h.kept (Kept.below hb (fun b hb => hb))) hj)
  have hq := lt256 (x.getD 0 0)
  change at0 x 0 < 256 at hq
  have hr : 224 ≤ at0 x 0 ∧ at0 x 0 < 240 := by
    unfold manyN at h0
    (repeat' split at h0) <;> omega
  have hf : firstN (at0 x 0) = at0 x 0 % 16 := by
    unfold firstN
    (repeat' split) <;> omega
  have hlow := Lib.hid (show lowN x 0 = at0 x 0 % 16 from hf)
  have htop := Lib.hid (show topN x 0 = at0 x 0 % 16 from hf)
  have h0' := Lib.hid h0
  have hn' := Lib.hid hn
  generalize hc0 : at0 x 0 = q at a0 hr hq hlow htop
  have hi : (1 : Int) ≤ (n : Int) := by omega
  clear h hn h1 h0 hc0 hf
  have i1 : (224 : Int) ≤ (q : Int) := by omega
  have i2 : (q : Int) < 240 := by omega
  go_enter Tryz.func108, Tryz.ntmps108
  go_wp2
  go_loopw [8, 9, 10] (fun a b d W => ∃ i : Nat, a = .int .i64 (lowN x i : Int) ∧ b = .int .i64 (topN x i : Int) ∧ d = .int .i64 ((i + 1 : Nat) : Int) ∧ i + 1 ≤ 3 ∧ contN x i = true ∧ Below w.heap.size w W) (fun _ _ d _ => 5 - (intOf d).toNat)
  case atStart =>
    refine ⟨0, by rw [hlow.out]; rfl, by rw [htop.out]; rfl, rfl, by omega, rfl, Below.refl _ _⟩
  case round =>
    obtain ⟨i, rfl, rfl, rfl, hi4, hcn, hbw⟩ := hrel
    have hbw' := Lib.hid hbw
    have hb3 := low_lt3 x (i := i) (by omega)
    have hcn' := Lib.hid hcn
    clear hcn a0 hbw
    by_cases him : i + 1 < 3
    · obtain ⟨j, hj⟩ : ∃ j, i + 1 = j := ⟨_, rfl⟩
      have hj' := Lib.hid hj
      have hlo : lowN x (i + 1) = 64 * lowN x i + (if i + 1 < x.length then at0 x (i + 1) % 64 else 0) := rfl
      have hto : topN x (i + 1) = 64 * topN x i + (if i + 1 < x.length then at0 x (i + 1) % 64 else 63) := rfl
      have hlo' := Lib.hid hlo
      have hto' := Lib.hid hto
      have j1 : (j : Int) < 3 := by omega
      have j2 : (1 : Int) ≤ (j : Int) := by omega
      rw [hj]
      have k1 : ((lowN x i : Nat) : Int) < 67108864 := by omega
      have k2 : (0 : Int) ≤ ((lowN x i : Nat) : Int) := by omega
      have k3 : ((topN x i : Nat) : Int) < 67108864 := by omega
      have k4 : (0 : Int) ≤ ((topN x i : Nat) : Int) := by omega
      clear hlo hto hb3 hj him
      generalize hl : ((lowN x i : Nat) : Int) = lo at k1 k2 ⊢
      generalize ht : ((topN x i : Nat) : Int) = tq at k3 k4 ⊢
      have hl' := Lib.hid hl
      have ht' := Lib.hid ht
      clear hl ht
      by_cases hix : x.length ≤ j
      · have g1 : (n : Int) ≤ (j : Int) := by have := hn'.out; omega
        have hix' := Lib.hid hix
        clear hix
        go_wp2
        refine ⟨⟨i + 1, ?_, ?_, ?_, by have := hj'.out; omega, ?_, hbw'.out⟩, by have := hj'.out; simp [intOf]; omega⟩
        · have := hlo'.out
          rw [if_neg (by have := hj'.out; have := hix'.out; omega)] at this
          exact congrArg (Value.int .i64) (by have := hl'.out; omega)
        · have := hto'.out
          rw [if_neg (by have := hj'.out; have := hix'.out; omega)] at this
          exact congrArg (Value.int .i64) (by have := ht'.out; omega)
        · exact congrArg (Value.int .i64) (by have := hj'.out; omega)
        · rw [contN, hcn'.out, decide_eq_true (show x.length ≤ i + 1 by have := hj'.out; have := hix'.out; omega)]; rfl
      · have hjn : j < x.length := by omega
        have a1 := hat.out _ hbw'.out j hjn
        have g1 : (j : Int) < (n : Int) := by have := hn'.out; omega
        have hjn' := Lib.hid hjn
        have hby := lt256 (x.getD j 0)
        change at0 x j < 256 at hby
        clear hix hjn
        generalize hy : at0 x j = y at a1 hby
        have hy' := Lib.hid hy
        clear hy
        by_cases hcc : 128 ≤ y ∧ y ≤ 191
        · have y1 : (128 : Int) ≤ (y : Int) := by omega
          have y2 : (y : Int) ≤ 191 := by omega
          go_wp2
          have w1 : IntKind.i64.wrap (64 * lo) = 64 * lo := IntWalk.i64_in _ (by omega)
          have w2 : IntKind.i64.wrap (64 * tq) = 64 * tq := IntWalk.i64_in _ (by omega)
          have w3 : (y : Int).tmod 64 = (y : Int) % 64 := IntWalk.rem_in _ _ (by omega)
          have w4 : IntKind.i64.wrap (64 * lo + (y : Int) % 64) = 64 * lo + (y : Int) % 64 := IntWalk.i64_in _ (by omega)
          have w5 : IntKind.i64.wrap (64 * tq + (y : Int) % 64) = 64 * tq + (y : Int) % 64 := IntWalk.i64_in _ (by omega)
          go_quiet (fail)
          clear w1 w2 w3 w4 w5
          go_wp2
          refine ⟨⟨i + 1, ?_, ?_, ?_, by have := hj'.out; omega, ?_, below_draws hbw'.out _⟩, by have := hj'.out; simp [intOf]; omega⟩
          · have := hlo'.out
            rw [if_pos (by have := hj'.out; have := hjn'.out; omega), hj'.out, hy'.out] at this
            rw [hj'.out]
            exact congrArg (Value.int .i64) (by have := hl'.out; omega)
          · have := hto'.out
            rw [if_pos (by have := hj'.out; have := hjn'.out; omega), hj'.out, hy'.out] at this
            rw [hj'.out]
            exact congrArg (Value.int .i64) (by have := ht'.out; omega)
          · exact congrArg (Value.int .i64) (by have := hj'.out; omega)
          · rw [contN, hcn'.out, hj'.out, hy'.out, decide_eq_true hcc.1, decide_eq_true hcc.2]; simp
        · have hno : ¬ contN x (i + 1) = true := by
            rw [contN, Bool.and_eq_true, Bool.or_eq_true, Bool.and_eq_true, decide_eq_true_iff, decide_eq_true_iff, decide_eq_true_iff, hj'.out, hy'.out]
            have := hjn'.out
            omega
          have hsp := span_stop h0'.out (by have := hj'.out; omega) hno
          have hyy : (y : Int) < 128 ∨ (128 : Int) ≤ (y : Int) ∧ (191 : Int) < (y : Int) := by omega
          have hsp' := Lib.hid hsp
          clear hcc hno hsp
          rcases hyy with y1 | ⟨y1, y2⟩
          all_goals
            go_wp2
            refine bodyPost_ret (v := .tuple #[.int .i64 0, .int .i64 0, .int .i64 0, .bool false]) (by simp [results, Tryz.results108, go_sem]) rfl ⟨?_, hbw'.out⟩
            rw [hsp'.out]; rfl
    · obtain rfl : i = 3 - 1 := by omega
      have h4 := h0'.out
      have hb3' := Lib.hid hb3
      clear hb3 him hi4
      generalize hl : ((lowN x (3 - 1) : Nat) : Int) = lo
      generalize ht : ((topN x (3 - 1) : Nat) : Int) = tq
      have hl' := Lib.hid hl
      have ht' := Lib.hid ht
      clear hl ht
      go_wp2
      refine bodyPost_ret (v := .tuple #[.int .i64 3, .int .i64 lo, .int .i64 tq, .bool true]) (by simp [results, Tryz.results108, go_sem]) rfl ⟨?_, hbw'.out⟩
      have hsp : spanOk x = true := by
        have := hcn'.out
        unfold spanOk
        rw [h0'.out]
        simpa using this
      rw [hsp, if_pos rfl, h0'.out, hl'.out, ht'.out]
      rfl
set_option maxRecDepth 100000 in
set_option maxHeartbeats 4000000 in
theorem span_4 (ad : Addr) (x : List UInt8) (n c : Nat) (w : World) (h : Rd w (· < w.heap.size) (some ad) x) (hn : n = x.length) (h1 : 1 ≤ x.length) (_hc : n ≤ c) (_hc' : c ≤ 9223372036854775807) (h0 : manyN (at0 x 0) = 4) :
    Calls Tryz.prog 108 #[.slice (some ad) n c] w (SpanOf x w) := by
  have a0 := rd_at0 h (by omega)
  have hat := Lib.hid (fun (W : World) (hb : Below w.heap.size w W) (j : Nat) (hj : j < x.length) => rd_at (h.kept (Kept.below hb (fun b hb => hb))) hj)
  have hq := lt256 (x.getD 0 0)
  change at0 x 0 < 256 at hq
  have hr : 240 ≤ at0 x 0 ∧ at0 x 0 < 248 := by
    unfold manyN at h0
    (repeat' split at h0) <;> omega
  have hf : firstN (at0 x 0) = at0 x 0 % 8 := by
    unfold firstN
    (repeat' split) <;> omega
  have hlow := Lib.hid (show lowN x 0 = at0 x 0 % 8 from hf)
  have htop := Lib.hid (show topN x 0 = at0 x 0 % 8 from hf)
  have h0' := Lib.hid h0
  have hn' := Lib.hid hn
  generalize hc0 : at0 x 0 = q at a0 hr hq hlow htop
  have hi : (1 : Int) ≤ (n : Int) := by omega
  clear h hn h1 h0 hc0 hf
  have i1 : (240 : Int) ≤ (q : Int) := by omega
  have i2 : (q : Int) < 248 := by omega
  go_enter Tryz.func108, Tryz.ntmps108
  go_wp2
  go_loopw [8, 9, 10] (fun a b d W => ∃ i : Nat, a = .int .i64 (lowN x i : Int) ∧ b = .int .i64 (topN x i : Int) ∧ d = .int .i64 ((i + 1 : Nat) : Int) ∧ i + 1 ≤ 4 ∧ contN x i = true ∧ Below w.heap.size w W) (fun _ _ d _ => 5 - (intOf d).toNat)
  case atStart =>
    refine ⟨0, by rw [hlow.out]; rfl, by rw [htop.out]; rfl, rfl, by omega, rfl, Below.refl _ _⟩
  case round =>
    obtain ⟨i, rfl, rfl, rfl, hi4, hcn, hbw⟩ := hrel
    have hbw' := Lib.hid hbw
    have hb3 := low_lt3 x (i := i) (by omega)
    have hcn' := Lib.hid hcn
    clear hcn a0 hbw
    by_cases him : i + 1 < 4
    · obtain ⟨j, hj⟩ : ∃ j, i + 1 = j := ⟨_, rfl⟩
      have hj' := Lib.hid hj
      have hlo : lowN x (i + 1) = 64 * lowN x i + (if i + 1 < x.length then at0 x (i + 1) % 64 else 0) := rfl
      have hto : topN x (i + 1) = 64 * topN x i + (if i + 1 < x.length then at0 x (i + 1) % 64 else 63) := rfl
      have hlo' := Lib.hid hlo
      have hto' := Lib.hid hto
      have j1 : (j : Int) < 4 := by omega
      have j2 : (1 : Int) ≤ (j : Int) := by omega
      rw [hj]
      have k1 : ((lowN x i : Nat) : Int) < 67108864 := by omega
      have k2 : (0 : Int) ≤ ((lowN x i : Nat) : Int) := by omega
      have k3 : ((topN x i : Nat) : Int) < 67108864 := by omega
      have k4 : (0 : Int) ≤ ((topN x i : Nat) : Int) := by omega
      clear hlo hto hb3 hj him
      generalize hl : ((lowN x i : Nat) : Int) = lo at k1 k2 ⊢
      generalize ht : ((topN x i : Nat) : Int) = tq at k3 k4 ⊢
      have hl' := Lib.hid hl
      have ht' := Lib.hid ht
      clear hl ht
      by_cases hix : x.length ≤ j
      · have g1 : (n : Int) ≤ (j : Int) := by have := hn'.out; omega
        have hix' := Lib.hid hix
        clear hix
        go_wp2
        refine ⟨⟨i + 1, ?_, ?_, ?_, by have := hj'.out; omega, ?_, hbw'.out⟩, by have := hj'.out; simp [intOf]; omega⟩
        · have := hlo'.out
          rw [if_neg (by have := hj'.out; have := hix'.out; omega)] at this
          exact congrArg (Value.int .i64) (by have := hl'.out; omega)
        · have := hto'.out
          rw [if_neg (by have := hj'.out; have := hix'.out; omega)] at this
          exact congrArg (Value.int .i64) (by have := ht'.out; omega)
        · exact congrArg (Value.int .i64) (by have := hj'.out; omega)
        · rw [contN, hcn'.out, decide_eq_true (show x.length ≤ i + 1 by have := hj'.out; have := hix'.out; omega)]; rfl
      · have hjn : j < x.length := by omega
        have a1 := hat.out _ hbw'.out j hjn
        have g1 : (j : Int) < (n : Int) := by have := hn'.out; omega
        have hjn' := Lib.hid hjn
        have hby := lt256 (x.getD j 0)
        change at0 x j < 256 at hby
        clear hix hjn
        generalize hy : at0 x j = y at a1 hby
        have hy' := Lib.hid hy
        clear hy
        by_cases hcc : 128 ≤ y ∧ y ≤ 191
        · have y1 : (128 : Int) ≤ (y : Int) := by omega
          have y2 : (y : Int) ≤ 191 := by omega
          go_wp2
          have w1 : IntKind.i64.wrap (64 * lo) = 64 * lo := IntWalk.i64_in _ (by omega)
          have w2 : IntKind.i64.wrap (64 * tq) = 64 * tq := IntWalk.i64_in _ (by omega)
          have w3 : (y : Int).tmod 64 = (y : Int) % 64 := IntWalk.rem_in _ _ (by omega)
          have w4 : IntKind.i64.wrap (64 * lo + (y : Int) % 64) = 64 * lo + (y : Int) % 64 := IntWalk.i64_in _ (by omega)
          have w5 : IntKind.i64.wrap (64 * tq + (y : Int) % 64) = 64 * tq + (y : Int) % 64 := IntWalk.i64_in _ (by omega)
          go_quiet (fail)
          clear w1 w2 w3 w4 w5
          go_wp2
          refine ⟨⟨i + 1, ?_, ?_, ?_, by have := hj'.out; omega, ?_, below_draws hbw'.out _⟩, by have := hj'.out; simp [intOf]; omega⟩
          · have := hlo'.out
            rw [if_pos (by have := hj'.out; have := hjn'.out; omega), hj'.out, hy'.out] at this
            rw [hj'.out]
            exact congrArg (Value.int .i64) (by have := hl'.out; omega)
          · have := hto'.out
            rw [if_pos (by have := hj'.out; have := hjn'.out; omega), hj'.out, hy'.out] at this
            rw [hj'.out]
            exact congrArg (Value.int .i64) (by have := ht'.out; omega)
          · exact congrArg (Value.int .i64) (by have := hj'.out; omega)
          · rw [contN, hcn'.out, hj'.out, hy'.out, decide_eq_true hcc.1, decide_eq_true hcc.2]; simp
        · have hno : ¬ contN x (i + 1) = true := by
            rw [contN, Bool.and_eq_true, Bool.or_eq_true, Bool.and_eq_true, decide_eq_true_iff, decide_eq_true_iff, decide_eq_true_iff, hj'.out, hy'.out]
            have := hjn'.out
            omega
          have hsp := span_stop h0'.out (by have := hj'.out; omega) hno
          have hyy : (y : Int) < 128 ∨ (128 : Int) ≤ (y : Int) ∧ (191 : Int) < (y : Int) := by omega
          have hsp' := Lib.hid hsp
          clear hcc hno hsp
          rcases hyy with y1 | ⟨y1, y2⟩
          all_goals
            go_wp2
            refine bodyPost_ret (v := .tuple #[.int .i64 0, .int .i64 0, .int .i64 0, .bool false]) (by simp [results, Tryz.results108, go_sem]) rfl ⟨?_, hbw'.out⟩
            rw [hsp'.out]; rfl
    · obtain rfl : i = 4 - 1 := by omega
      have h4 := h0'.out
      have hb3' := Lib.hid hb3
      clear hb3 him hi4
      generalize hl : ((lowN x (4 - 1) : Nat) : Int) = lo
      generalize ht : ((topN x (4 - 1) : Nat) : Int) = tq
      have hl' := Lib.hid hl
      have ht' := Lib.hid ht
      clear hl ht
      go_wp2
      refine bodyPost_ret (v := .tuple #[.int .i64 4, .int .i64 lo, .int .i64 tq, .bool true]) (by simp [results, Tryz.results108, go_sem]) rfl ⟨?_, hbw'.out⟩
      have hsp : spanOk x = true := by
        have := hcn'.out
        unfold spanOk
        rw [h0'.out]
        simpa using this
      rw [hsp, if_pos rfl, h0'.out, hl'.out, ht'.out]
      rfl
theorem span_any (ad : Addr) (x : List UInt8) (n c : Nat) (w : World) (h : Rd w (· < w.heap.size) (some ad) x) (hn : n = x.length) (h1 : 1 ≤ x.length) (hc : n ≤ c) (hc' : c ≤ 9223372036854775807) :
    Calls Tryz.prog 108 #[.slice (some ad) n c] w (SpanOf x w) := by
  rcases many_le (at0 x 0) with m | m | m | m | m
  · exact span_none _ ad x n c w h hn h1 hc hc' m
  · exact span_1 ad x n c w h hn h1 hc hc' m
  · exact span_2 ad x n c w h hn h1 hc hc' m
  · exact span_3 ad x n c w h hn h1 hc hc' m
  · exact span_4 ad x n c w h hn h1 hc hc' m
end Go.Proofs.YtlbiniibkbhghaaGreatDoor
