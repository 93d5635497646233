import Derived.Test.YtlbiniibkbhghaaGreatDoorPk6
namespace Go.Proofs.YtlbiniibkbhghaaGreatDoor
open Go.RowKit

/-! ## The document's reading: the mathematics -/
def manyN (c : Nat) : Nat := if c < 128 then 1 else if c < 192 then 0 else if c < 224 then 2 else if c < 240 then 3 else if c < 248 then 4 else 0
def firstN (c : Nat) : Nat := if c < 128 then c else if c < 224 then c % 32 else if c < 240 then c % 16 else c % 8
def at0 (x : List UInt8) (i : Nat) : Nat := (x.getD i 0).toNat
/-- The least and the most point, i bytes behind the first one being reckoned with. -/
def lowN (x : List UInt8) : Nat → Nat
  | 0 => firstN (at0 x 0)
  | i + 1 => 64 * lowN x i + (if i + 1 < x.length then at0 x (i + 1) % 64 else 0)
def topN (x : List UInt8) : Nat → Nat
  | 0 => firstN (at0 x 0)
  | i + 1 => 64 * topN x i + (if i + 1 < x.length then at0 x (i + 1) % 64 else 63)
/-- So many bytes behind the first one are as bytes behind a first one are. -/
def contN (x : List UInt8) : Nat → Bool
  | 0 => true
  | i + 1 => contN x i && (decide (x.length ≤ i + 1) || (decide (128 ≤ at0 x (i + 1)) && decide (at0 x (i + 1) ≤ 191)))
def spanOk (x : List UInt8) : Bool := decide (manyN (at0 x 0) ≠ 0) && contN x (manyN (at0 x 0) - 1)
def tblN (m : Nat) : Nat := if m = 2 then 128 else if m = 3 then 2048 else if m = 4 then 65536 else 0
def beginsOk (x : List UInt8) : Bool :=
  spanOk x && decide (x.length ≤ manyN (at0 x 0)) && (! (decide (manyN (at0 x 0) = 3) && decide (55296 ≤ max (lowN x (manyN (at0 x 0) - 1)) (tblN (manyN (at0 x 0)))) && decide (min (topN x (manyN (at0 x 0) - 1)) 1114111 ≤ 57343))) &&
    decide (max (lowN x (manyN (at0 x 0) - 1)) (tblN (manyN (at0 x 0))) ≤ min (topN x (manyN (at0 x 0) - 1)) 1114111)
/-- Some point's bytes begin with these. -/
def okp (x : List UInt8) : Prop := kOf (at0 x 0) ≠ 9 ∧ x.length ≤ moreN (kOf (at0 x 0)) + 1 ∧ ∀ j, 1 ≤ j → j < x.length → inR (kOf (at0 x 0)) j (at0 x j)
theorem kOf_ranges (c : Nat) (hc : c < 256) : c < 128 ∧ kOf c = 0 ∧ manyN c = 1 ∨ 128 ≤ c ∧ c < 192 ∧ kOf c = 9 ∧ manyN c = 0 ∨ 192 ≤ c ∧ c < 194 ∧ kOf c = 9 ∧ manyN c = 2 ∨ 194 ≤ c ∧ c < 224 ∧ kOf c = 1 ∧ manyN c = 2 ∨ c = 224 ∧ kOf c = 2 ∧ manyN c = 3 ∨
    225 ≤ c ∧ c < 237 ∧ kOf c = 3 ∧ manyN c = 3 ∨ c = 237 ∧ kOf c = 4 ∧ manyN c = 3 ∨ 238 ≤ c ∧ c < 240 ∧ kOf c = 5 ∧ manyN c = 3 ∨ c = 240 ∧ kOf c = 6 ∧ manyN c = 4 ∨ 241 ≤ c ∧ c < 244 ∧ kOf c = 7 ∧ manyN c = 4 ∨ c = 244 ∧ kOf c = 8 ∧ manyN c = 4 ∨
    245 ≤ c ∧ c < 248 ∧ kOf c = 9 ∧ manyN c = 4 ∨ 248 ≤ c ∧ kOf c = 9 ∧ manyN c = 0 := by
  have key : ∀ i : Fin 256, i.val < 128 ∧ kOf i.val = 0 ∧ manyN i.val = 1 ∨ 128 ≤ i.val ∧ i.val < 192 ∧ kOf i.val = 9 ∧ manyN i.val = 0 ∨ 192 ≤ i.val ∧ i.val < 194 ∧ kOf i.val = 9 ∧ manyN i.val = 2 ∨ 194 ≤ i.val ∧ i.val < 224 ∧ kOf i.val = 1 ∧ manyN i.val = 2 ∨ i.val = 224 ∧ kOf i.val = 2 ∧ manyN i.val = 3 ∨
    225 ≤ i.val ∧ i.val < 237 ∧ kOf i.val = 3 ∧ manyN i.val = 3 ∨ i.val = 237 ∧ kOf i.val = 4 ∧ manyN i.val = 3 ∨ 238 ≤ i.val ∧ i.val < 240 ∧ kOf i.val = 5 ∧ manyN i.val = 3 ∨ i.val = 240 ∧ kOf i.val = 6 ∧ manyN i.val = 4 ∨ 241 ≤ i.val ∧ i.val < 244 ∧ kOf i.val = 7 ∧ manyN i.val = 4 ∨ i.val = 244 ∧ kOf i.val = 8 ∧ manyN i.val = 4 ∨
    245 ≤ i.val ∧ i.val < 248 ∧ kOf i.val = 9 ∧ manyN i.val = 4 ∨ 248 ≤ i.val ∧ kOf i.val = 9 ∧ manyN i.val = 0 := by decide +kernel
  exact key ⟨c, hc⟩
theorem lt256 (b : UInt8) : b.toNat < 256 := b.toNat_lt
theorem okp1 (c : UInt8) : okp [c] ↔ kOf c.toNat ≠ 9 := by
  unfold okp
  simp only [at0, List.getD_cons_zero, List.length_cons, List.length_nil]
  constructor
  · exact fun h => h.1
  · exact fun h => ⟨h, by omega, fun j h1 h2 => by omega⟩
theorem okp2 (c b : UInt8) : okp [c, b] ↔ kOf c.toNat ≠ 9 ∧ 1 ≤ moreN (kOf c.toNat) ∧ inR (kOf c.toNat) 1 b.toNat := by
  unfold okp
  simp only [at0, List.getD_cons_zero, List.length_cons, List.length_nil]
  constructor
  · exact fun h => ⟨h.1, by omega, h.2.2 1 (by omega) (by omega)⟩
  · exact fun h => ⟨h.1, by omega, fun j h1 h2 => by obtain rfl : j = 1 := (by omega); exact h.2.2⟩
theorem okp3 (c b d : UInt8) : okp [c, b, d] ↔ kOf c.toNat ≠ 9 ∧ 2 ≤ moreN (kOf c.toNat) ∧ inR (kOf c.toNat) 1 b.toNat ∧ inR (kOf c.toNat) 2 d.toNat := by
  unfold okp
  simp only [at0, List.getD_cons_zero, List.length_cons, List.length_nil]
  constructor
  · exact fun h => ⟨h.1, by omega, h.2.2 1 (by omega) (by omega), h.2.2 2 (by omega) (by omega)⟩
  · refine fun h => ⟨h.1, by omega, fun j h1 h2 => ?_⟩
    have : j = 1 ∨ j = 2 := by omega
    rcases this with rfl | rfl
    · exact h.2.2.1
    · exact h.2.2.2
theorem okp4 (c b d f : UInt8) : okp [c, b, d, f] ↔ kOf c.toNat ≠ 9 ∧ 3 ≤ moreN (kOf c.toNat) ∧ inR (kOf c.toNat) 1 b.toNat ∧ inR (kOf c.toNat) 2 d.toNat ∧ inR (kOf c.toNat) 3 f.toNat := by
  unfold okp
  simp only [at0, List.getD_cons_zero, List.length_cons, List.length_nil]
  constructor
  · exact fun h => ⟨h.1, by omega, h.2.2 1 (by omega) (by omega), h.2.2 2 (by omega) (by omega), h.2.2 3 (by omega) (by omega)⟩
  · refine fun h => ⟨h.1, by omega, fun j h1 h2 => ?_⟩
    have : j = 1 ∨ j = 2 ∨ j = 3 := by omega
    rcases this with rfl | rfl | rfl
    · exact h.2.2.1
    · exact h.2.2.2.1
    · exact h.2.2.2.2
/-- The test of many, least and top alone. -/
def testN (m low top : Nat) : Bool := (! (decide (m = 3) && decide (55296 ≤ max low (tblN m)) && decide (min top 1114111 ≤ 57343))) && decide (max low (tblN m) ≤ min top 1114111)
theorem test1 (low top : Nat) : testN 1 low top = decide (low ≤ top ∧ low ≤ 1114111) := by
  unfold testN tblN; rw [Bool.eq_iff_iff]; simp; omega
theorem test2 (low top : Nat) : testN 2 low top = decide (max low 128 ≤ min top 1114111) := by
  unfold testN tblN; rw [Bool.eq_iff_iff]; simp
theorem test3 (low top : Nat) : testN 3 low top = decide (¬ (55296 ≤ max low 2048 ∧ min top 1114111 ≤ 57343) ∧ max low 2048 ≤ min top 1114111) := by
  unfold testN tblN; rw [Bool.eq_iff_iff]; simp
theorem test4 (low top : Nat) : testN 4 low top = decide (max low 65536 ≤ min top 1114111) := by
  unfold testN tblN; rw [Bool.eq_iff_iff]; simp
theorem beginsOk_eq (x : List UInt8) : beginsOk x = (spanOk x && decide (x.length ≤ manyN (at0 x 0)) && testN (manyN (at0 x 0)) (lowN x (manyN (at0 x 0) - 1)) (topN x (manyN (at0 x 0) - 1))) := by
  unfold beginsOk testN; simp only [Bool.and_assoc]
theorem okp_no {x : List UInt8} (h : kOf (at0 x 0) = 9) : ¬ okp x := fun hh => hh.1 h
theorem firstN_of (c : Nat) (hc : c < 256) : (manyN c = 1 → firstN c = c ∧ c < 128) ∧ (manyN c = 2 → firstN c = c - 192 ∧ 192 ≤ c ∧ c < 224) ∧ (manyN c = 3 → firstN c = c - 224 ∧ 224 ≤ c ∧ c < 240) ∧ (manyN c = 4 → firstN c = c - 240 ∧ 240 ≤ c ∧ c < 248) := by
  have key : ∀ i : Fin 256, (manyN i.val = 1 → firstN i.val = i.val ∧ i.val < 128) ∧ (manyN i.val = 2 → firstN i.val = i.val - 192 ∧ 192 ≤ i.val ∧ i.val < 224) ∧ (manyN i.val = 3 → firstN i.val = i.val - 224 ∧ 224 ≤ i.val ∧ i.val < 240) ∧ (manyN i.val = 4 → firstN i.val = i.val - 240 ∧ 240 ≤ i.val ∧ i.val < 248) := by decide +kernel
  exact key ⟨c, hc⟩
theorem bo_eval {x : List UInt8} {m : Nat} (hm : manyN (at0 x 0) = m) (h0 : m ≠ 0) : beginsOk x = (contN x (m - 1) && decide (x.length ≤ m) && testN m (lowN x (m - 1)) (topN x (m - 1))) := by
  rw [beginsOk_eq, spanOk, hm, decide_eq_true (by simpa using h0)]; simp
theorem bo_none {x : List UInt8} (hm : manyN (at0 x 0) = 0) : beginsOk x = false := by
  rw [beginsOk_eq, spanOk, hm]; simp
theorem bo_long {x : List UInt8} (h : manyN (at0 x 0) < x.length) : beginsOk x = false := by
  rw [beginsOk_eq, decide_eq_false (show ¬ x.length ≤ manyN (at0 x 0) from by omega)]; simp
theorem okp_long {x : List UInt8} (h : moreN (kOf (at0 x 0)) + 1 < x.length) : ¬ okp x := fun hh => by have := hh.2.1; omega
theorem more_many (c : Nat) (hc : c < 256) (h : kOf c ≠ 9) : moreN (kOf c) + 1 = manyN c := by
  have key : ∀ i : Fin 256, kOf i.val ≠ 9 → moreN (kOf i.val) + 1 = manyN i.val := by decide +kernel
  exact key ⟨c, hc⟩ h
/-! The test, by how many bytes are there -/
theorem t11 {q : Nat} (h : q < 128) : testN 1 q q = true := by rw [test1]; exact decide_eq_true (by omega)
theorem t2 {q u v : Nat} (h : q < 32) (hu : 64 * q ≤ u) (hv : v ≤ 64 * q + 63) (hq : u ≤ v) : testN 2 u v = true ↔ 2 ≤ q := by rw [test2, decide_eq_true_iff]; omega
theorem t31 {q : Nat} (h : q < 16) : testN 3 (64 * (64 * q)) (64 * (64 * q + 63) + 63) = true := by rw [test3]; exact decide_eq_true (by omega)
theorem t32 {q r u v : Nat} (h : q < 16) (hr : r < 64) (hu : 64 * (64 * q + r) ≤ u) (hv : v ≤ 64 * (64 * q + r) + 63) (hq : u ≤ v) : testN 3 u v = true ↔ (q = 0 → 32 ≤ r) ∧ (q = 13 → r < 32) := by rw [test3, decide_eq_true_iff]; omega
theorem t41 {q : Nat} (h : q < 8) : testN 4 (64 * (64 * (64 * q))) (64 * (64 * (64 * q + 63) + 63) + 63) = true ↔ q ≤ 4 := by rw [test4, decide_eq_true_iff]; omega
theorem t42 {q r u v : Nat} (h : q < 8) (hr : r < 64) (hu : 64 * (64 * (64 * q + r)) ≤ u) (hv : v ≤ 64 * (64 * (64 * q + r) + 63) + 63) (hq : u ≤ v) : testN 4 u v = true ↔ (q = 0 → 16 ≤ r) ∧ q ≤ 4 ∧ (q = 4 → r < 16) := by rw [test4, decide_eq_true_iff]; omega
theorem rows_ok (c : Nat) (hc : c < 256) : (manyN c = 0 → kOf c = 9) ∧ (manyN c = 1 → kOf c = 0) ∧
    (manyN c = 2 → (kOf c ≠ 9 ↔ 194 ≤ c) ∧ (kOf c ≠ 9 → moreN (kOf c) = 1 ∧ loN (kOf c) 1 = 128 ∧ hiN (kOf c) 1 = 191)) ∧
    (manyN c = 3 → kOf c ≠ 9 ∧ moreN (kOf c) = 2 ∧ (c = 224 → loN (kOf c) 1 = 160) ∧ (c ≠ 224 → loN (kOf c) 1 = 128) ∧ (c = 237 → hiN (kOf c) 1 = 159) ∧ (c ≠ 237 → hiN (kOf c) 1 = 191) ∧ loN (kOf c) 2 = 128 ∧ hiN (kOf c) 2 = 191) ∧
    (manyN c = 4 → (kOf c ≠ 9 ↔ c ≤ 244) ∧ (kOf c ≠ 9 → moreN (kOf c) = 3 ∧ (c = 240 → loN (kOf c) 1 = 144) ∧ (c ≠ 240 → loN (kOf c) 1 = 128) ∧ (c = 244 → hiN (kOf c) 1 = 143) ∧ (c ≠ 244 → hiN (kOf c) 1 = 191) ∧ loN (kOf c) 2 = 128 ∧ hiN (kOf c) 2 = 191 ∧ loN (kOf c) 3 = 128 ∧ hiN (kOf c) 3 = 191)) := by
  have k1 : ∀ i : Fin 256, (manyN i.val = 0 → kOf i.val = 9) ∧ (manyN i.val = 1 → kOf i.val = 0) := by decide +kernel
  have k2 : ∀ i : Fin 256, manyN i.val = 2 → (kOf i.val ≠ 9 ↔ 194 ≤ i.val) ∧ (kOf i.val ≠ 9 → moreN (kOf i.val) = 1 ∧ loN (kOf i.val) 1 = 128 ∧ hiN (kOf i.val) 1 = 191) := by decide +kernel
  have k3 : ∀ i : Fin 256, manyN i.val = 3 → kOf i.val ≠ 9 ∧ moreN (kOf i.val) = 2 ∧ (i.val = 224 → loN (kOf i.val) 1 = 160) ∧ (i.val ≠ 224 → loN (kOf i.val) 1 = 128) := by decide +kernel
  have k3' : ∀ i : Fin 256, manyN i.val = 3 → (i.val = 237 → hiN (kOf i.val) 1 = 159) ∧ (i.val ≠ 237 → hiN (kOf i.val) 1 = 191) ∧ loN (kOf i.val) 2 = 128 ∧ hiN (kOf i.val) 2 = 191 := by decide +kernel
  have k4 : ∀ i : Fin 256, manyN i.val = 4 → (kOf i.val ≠ 9 ↔ i.val ≤ 244) ∧ (kOf i.val ≠ 9 → moreN (kOf i.val) = 3 ∧ (i.val = 240 → loN (kOf i.val) 1 = 144) ∧ (i.val ≠ 240 → loN (kOf i.val) 1 = 128)) := by decide +kernel
  have k4' : ∀ i : Fin 256, manyN i.val = 4 → kOf i.val ≠ 9 → (i.val = 244 → hiN (kOf i.val) 1 = 143) ∧ (i.val ≠ 244 → hiN (kOf i.val) 1 = 191) ∧ loN (kOf i.val) 2 = 128 ∧ hiN (kOf i.val) 2 = 191 := by decide +kernel
  have k4'' : ∀ i : Fin 256, manyN i.val = 4 → kOf i.val ≠ 9 → loN (kOf i.val) 3 = 128 ∧ hiN (kOf i.val) 3 = 191 := by decide +kernel
  exact ⟨(k1 ⟨c, hc⟩).1, (k1 ⟨c, hc⟩).2, k2 ⟨c, hc⟩, fun m => ⟨(k3 ⟨c, hc⟩ m).1, (k3 ⟨c, hc⟩ m).2.1, (k3 ⟨c, hc⟩ m).2.2.1, (k3 ⟨c, hc⟩ m).2.2.2, k3' ⟨c, hc⟩ m⟩,
    fun m => ⟨(k4 ⟨c, hc⟩ m).1, fun h => ⟨((k4 ⟨c, hc⟩ m).2 h).1, ((k4 ⟨c, hc⟩ m).2 h).2.1, ((k4 ⟨c, hc⟩ m).2 h).2.2, (k4' ⟨c, hc⟩ m h).1, (k4' ⟨c, hc⟩ m h).2.1, (k4' ⟨c, hc⟩ m h).2.2.1, (k4' ⟨c, hc⟩ m h).2.2.2, k4'' ⟨c, hc⟩ m h⟩⟩⟩
theorem inR_iff (k j b : Nat) : inR k j b ↔ loN k j ≤ b ∧ b ≤ hiN k j := Iff.rfl
theorem many_le (c : Nat) : manyN c = 0 ∨ manyN c = 1 ∨ manyN c = 2 ∨ manyN c = 3 ∨ manyN c = 4 := by unfold manyN; (repeat' split) <;> omega
set_option maxHeartbeats 1000000 in
theorem begins1 (c : UInt8) : beginsOk [c] = true ↔ okp [c] := by
  obtain ⟨n, hn⟩ : ∃ n, c.toNat = n := ⟨_, rfl⟩
  have h0 : at0 [c] 0 = n := hn
  have hc : n < 256 := by rw [← hn]; exact lt256 _
  obtain ⟨f1, f2, f3, f4⟩ := firstN_of n hc
  obtain ⟨r0, r1, r2, r3, r4⟩ := rows_ok n hc
  rw [okp1, hn]
  rcases many_le n with m | m | m | m | m
  · rw [bo_none (by rw [h0]; exact m), r0 m]; simp
  · have e : beginsOk [c] = testN 1 (firstN n) (firstN n) := by rw [bo_eval (m := 1) (by rw [h0]; exact m) (by decide)]; simp [contN, lowN, topN, h0]
    rw [e, (f1 m).1, t11 (f1 m).2, r1 m]; simp
  · have e : beginsOk [c] = testN 2 (64 * firstN n) (64 * firstN n + 63) := by rw [bo_eval (m := 2) (by rw [h0]; exact m) (by decide)]; simp [contN, lowN, topN, h0]
    have f := f2 m
    rw [e, (r2 m).1, t2 (q := firstN n) (by omega) (by omega) (by omega) (by omega)]; omega
  · have e : beginsOk [c] = testN 3 (64 * (64 * firstN n)) (64 * (64 * firstN n + 63) + 63) := by rw [bo_eval (m := 3) (by rw [h0]; exact m) (by decide)]; simp [contN, lowN, topN, h0]
    have f := f3 m
    have r := (r3 m).1
    rw [e, t31 (by omega)]; simp [r]
  · have e : beginsOk [c] = testN 4 (64 * (64 * (64 * firstN n))) (64 * (64 * (64 * firstN n + 63) + 63) + 63) := by rw [bo_eval (m := 4) (by rw [h0]; exact m) (by decide)]; simp [contN, lowN, topN, h0]
    have f := f4 m
    rw [e, (r4 m).1, t41 (by omega)]; omega
set_option maxHeartbeats 1000000 in
theorem begins2 (c b : UInt8) (hm : 2 ≤ manyN c.toNat) : beginsOk [c, b] = true ↔ okp [c, b] := by
  obtain ⟨n, hn⟩ : ∃ n, c.toNat = n := ⟨_, rfl⟩
  have h0 : at0 [c, b] 0 = n := hn
  have h1 : at0 [c, b] 1 = b.toNat := rfl
  have hc : n < 256 := by rw [← hn]; exact lt256 _
  obtain ⟨f1, f2, f3, f4⟩ := firstN_of n hc
  obtain ⟨r0, r1, r2, r3, r4⟩ := rows_ok n hc
  rw [hn] at hm
  rw [okp2, hn, inR_iff]
  generalize b.toNat = y at h1
  rcases many_le n with m | m | m | m | m
  · omega
  · omega
  · have e : beginsOk [c, b] = true ↔ (128 ≤ y ∧ y ≤ 191) ∧ testN 2 (64 * firstN n + y % 64) (64 * firstN n + y % 64) = true := by rw [bo_eval (m := 2) (by rw [h0]; exact m) (by decide)]; simp [contN, lowN, topN, h0, h1]
    have f := f2 m
    have r := r2 m
    rw [e, t2 (q := firstN n) (by omega) (by omega) (by omega) (by omega)]; omega
  · have e : beginsOk [c, b] = true ↔ (128 ≤ y ∧ y ≤ 191) ∧ testN 3 (64 * (64 * firstN n + y % 64)) (64 * (64 * firstN n + y % 64) + 63) = true := by rw [bo_eval (m := 3) (by rw [h0]; exact m) (by decide)]; simp [contN, lowN, topN, h0, h1]
    have f := f3 m
    have r := r3 m
    rw [e, t32 (q := firstN n) (r := y % 64) (by omega) (by omega) (by omega) (by omega) (by omega)]; omega
  · have e : beginsOk [c, b] = true ↔ (128 ≤ y ∧ y ≤ 191) ∧ testN 4 (64 * (64 * (64 * firstN n + y % 64))) (64 * (64 * (64 * firstN n + y % 64) + 63) + 63) = true := by rw [bo_eval (m := 4) (by rw [h0]; exact m) (by decide)]; simp [contN, lowN, topN, h0, h1]
    have f := f4 m
    have r := r4 m
    rw [e, t42 (q := firstN n) (r := y % 64) (by omega) (by omega) (by omega) (by omega) (by omega)]; omega
set_option maxHeartbeats 1000000 in
theorem begins3 (c b d : UInt8) (hm : 3 ≤ manyN c.toNat) : beginsOk [c, b, d] = true ↔ okp [c, b, d] := by
  obtain ⟨n, hn⟩ : ∃ n, c.toNat = n := ⟨_, rfl⟩
  have h0 : at0 [c, b, d] 0 = n := hn
  have h1 : at0 [c, b, d] 1 = b.toNat := rfl
  have h2 : at0 [c, b, d] 2 = d.toNat := rfl
  have hc : n < 256 := by rw [← hn]; exact lt256 _
  obtain ⟨f1, f2, f3, f4⟩ := firstN_of n hc
  obtain ⟨r0, r1, r2, r3, r4⟩ := rows_ok n hc
  rw [hn] at hm
  rw [okp3, hn, inR_iff, inR_iff]
  generalize b.toNat = y at h1
  generalize d.toNat = z at h2
  rcases many_le n with m | m | m | m | m
  · omega
  · omega
  · omega
  · have e : beginsOk [c, b, d] = true ↔ ((128 ≤ y ∧ y ≤ 191) ∧ (128 ≤ z ∧ z ≤ 191)) ∧ testN 3 (64 * (64 * firstN n + y % 64) + z % 64) (64 * (64 * firstN n + y % 64) + z % 64) = true := by rw [bo_eval (m := 3) (by rw [h0]; exact m) (by decide)]; simp [contN, lowN, topN, h0, h1, h2]
    have f := f3 m
    have r := r3 m
    rw [e, t32 (q := firstN n) (r := y % 64) (by omega) (by omega) (by omega) (by omega) (by omega)]; omega
  · have e : beginsOk [c, b, d] = true ↔ ((128 ≤ y ∧ y ≤ 191) ∧ (128 ≤ z ∧ z ≤ 191)) ∧ testN 4 (64 * (64 * (64 * firstN n + y % 64) + z % 64)) (64 * (64 * (64 * firstN n + y % 64) + z % 64) + 63) = true := by rw [bo_eval (m := 4) (by rw [h0]; exact m) (by decide)]; simp [contN, lowN, topN, h0, h1, h2]
    have f := f4 m
    have r := r4 m
    rw [e, t42 (q := firstN n) (r := y % 64) (by omega) (by omega) (by omega) (by omega) (by omega)]; omega
set_option maxHeartbeats 1000000 in
theorem begins4 (c b d f : UInt8) (hm : 4 ≤ manyN c.toNat) : beginsOk [c, b, d, f] = true ↔ okp [c, b, d, f] := by
  obtain ⟨n, hn⟩ : ∃ n, c.toNat = n := ⟨_, rfl⟩
  have h0 : at0 [c, b, d, f] 0 = n := hn
  have h1 : at0 [c, b, d, f] 1 = b.toNat := rfl
  have h2 : at0 [c, b, d, f] 2 = d.toNat := rfl
  have h3 : at0 [c, b, d, f] 3 = f.toNat := rfl
  have hc : n < 256 := by rw [← hn]; exact lt256 _
  obtain ⟨f1, f2, f3, f4⟩ := firstN_of n hc
  obtain ⟨r0, r1, r2, r3, r4⟩ := rows_ok n hc
  rw [hn] at hm
  rw [okp4, hn, inR_iff, inR_iff, inR_iff]
  generalize b.toNat = y at h1
  generalize d.toNat = z at h2
  generalize f.toNat = u at h3
  rcases many_le n with m | m | m | m | m
  · omega
  · omega
  · omega
  · omega
  · have e : beginsOk [c, b, d, f] = true ↔ (((128 ≤ y ∧ y ≤ 191) ∧ (128 ≤ z ∧ z ≤ 191)) ∧ (128 ≤ u ∧ u ≤ 191)) ∧ testN 4 (64 * (64 * (64 * firstN n + y % 64) + z % 64) + u % 64) (64 * (64 * (64 * firstN n + y % 64) + z % 64) + u % 64) = true := by rw [bo_eval (m := 4) (by rw [h0]; exact m) (by decide)]; simp [contN, lowN, topN, h0, h1, h2, h3]
    have f := f4 m
    have r := r4 m
    rw [e, t42 (q := firstN n) (r := y % 64) (by omega) (by omega) (by omega) (by omega) (by omega)]; omega
theorem begins_okp (x : List UInt8) (h1 : 1 ≤ x.length) (h4 : x.length ≤ 4) : beginsOk x = true ↔ okp x := by
  obtain ⟨n, hn⟩ : ∃ n, at0 x 0 = n := ⟨_, rfl⟩
  have hc : n < 256 := by rw [← hn]; exact lt256 _
  rcases Nat.lt_or_ge (manyN n) x.length with hlong | hshort
  · rw [bo_long (by rw [hn]; exact hlong)]
    refine ⟨fun h => (by cases h), fun h => absurd h ?_⟩
    by_cases h9 : kOf n = 9
    · exact okp_no (by rw [hn]; exact h9)
    · exact okp_long (by rw [hn, more_many n hc h9]; exact hlong)
  · rw [← hn] at hshort
    match x, h1, h4, hshort with
    | [c], _, _, _ => exact begins1 c
    | [c, b], _, _, h => exact begins2 c b h
    | [c, b, d], _, _, h => exact begins3 c b d h
    | [c, b, d, f], _, _, h => exact begins4 c b d f h
end Go.Proofs.YtlbiniibkbhghaaGreatDoor
