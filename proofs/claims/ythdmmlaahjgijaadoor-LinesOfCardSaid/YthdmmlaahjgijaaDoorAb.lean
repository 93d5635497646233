import Derived.Test.YthdmmlaahjgijaaDoorA
namespace Go.Proofs.YthdmmlaahjgijaaDoor

/-! ## A point's bytes -/
def isPt (n : Nat) : Prop := n ≤ 1114111 ∧ (n < 55296 ∨ 57343 < n)
instance (n : Nat) : Decidable (isPt n) := inferInstanceAs (Decidable (_ ∧ _))
def u8 (n : Nat) : UInt8 := UInt8.ofNat n
theorem u8_toNat {n : Nat} (h : n < 256) : (u8 n).toNat = n := by
  show n % 256 = n
  omega
theorem u8_of {b : UInt8} {n : Nat} (h : b.toNat = n) : b = u8 n := by
  subst h
  exact (UInt8.ofNat_toNat).symm
def ptB (n : Nat) : List UInt8 :=
  if n < 128 then [u8 n] else if n < 2048 then [u8 (192 + n / 64), u8 (128 + n % 64)]
  else if n < 65536 then [u8 (224 + n / 4096), u8 (128 + n / 64 % 64), u8 (128 + n % 64)]
  else [u8 (240 + n / 262144), u8 (128 + n / 4096 % 64), u8 (128 + n / 64 % 64), u8 (128 + n % 64)]
theorem ptB_inst : ptB 65533 = inst := by decide
theorem goOn1 {k p : Nat} {b : UInt8} {r : List UInt8} (g1 : inR k 1 b.toNat) : goOn k 1 1 p (b :: r) = ⟨p * 64 + b.toNat % 64, 2, 0⟩ := by
  show goOn k (0 + 1) 1 p (b :: r) = _
  rw [goOn, if_pos g1, goOn]
theorem goOn2 {k p : Nat} {b d : UInt8} {r : List UInt8} (g1 : inR k 1 b.toNat) (g2 : inR k 2 d.toNat) : goOn k 2 1 p (b :: d :: r) = ⟨(p * 64 + b.toNat % 64) * 64 + d.toNat % 64, 3, 0⟩ := by
  show goOn k (0 + 1 + 1) 1 p (b :: d :: r) = _
  rw [goOn, if_pos g1, goOn, if_pos g2, goOn]
theorem goOn3 {k p : Nat} {b d f : UInt8} {r : List UInt8} (g1 : inR k 1 b.toNat) (g2 : inR k 2 d.toNat) (g3 : inR k 3 f.toNat) : goOn k 3 1 p (b :: d :: f :: r) = ⟨((p * 64 + b.toNat % 64) * 64 + d.toNat % 64) * 64 + f.toNat % 64, 4, 0⟩ := by
  show goOn k (0 + 1 + 1 + 1) 1 p (b :: d :: f :: r) = _
  rw [goOn, if_pos g1, goOn, if_pos g2, goOn, if_pos g3, goOn]
theorem pt2 (c b : UInt8) (h1 : 194 ≤ c.toNat) (h2 : c.toNat < 224) (h3 : 128 ≤ b.toNat) (h4 : b.toNat ≤ 191) : [c, b] = ptB ((c.toNat - 192) * 64 + b.toNat % 64) ∧ isPt ((c.toNat - 192) * 64 + b.toNat % 64) := by
  refine ⟨?_, by unfold isPt; omega⟩
  unfold ptB
  rw [if_neg (by omega), if_pos (by omega), ← u8_of (b := c) (by omega), ← u8_of (b := b) (by omega)]
theorem pt3 (c b d : UInt8) (h1 : 224 ≤ c.toNat) (h2 : c.toNat < 240) (h3 : 128 ≤ b.toNat) (h4 : b.toNat ≤ 191) (h5 : c.toNat = 224 → 160 ≤ b.toNat) (h6 : c.toNat = 237 → b.toNat ≤ 159) (h7 : 128 ≤ d.toNat) (h8 : d.toNat ≤ 191) :
    [c, b, d] = ptB (((c.toNat - 224) * 64 + b.toNat % 64) * 64 + d.toNat % 64) ∧ isPt (((c.toNat - 224) * 64 + b.toNat % 64) * 64 + d.toNat % 64) := by
  refine ⟨?_, by unfold isPt; omega⟩
  unfold ptB
  rw [if_neg (by omega), if_neg (by omega), if_pos (by omega), ← u8_of (b := c) (by omega), ← u8_of (b := b) (by omega), ← u8_of (b := d) (by omega)]
theorem pt4 (c b d f : UInt8) (h1 : 240 ≤ c.toNat) (h2 : c.toNat < 245) (h3 : 128 ≤ b.toNat) (h4 : b.toNat ≤ 191) (h5 : c.toNat = 240 → 144 ≤ b.toNat) (h6 : c.toNat = 244 → b.toNat ≤ 143) (h7 : 128 ≤ d.toNat) (h8 : d.toNat ≤ 191) (h9 : 128 ≤ f.toNat) (h10 : f.toNat ≤ 191) :
    [c, b, d, f] = ptB ((((c.toNat - 240) * 64 + b.toNat % 64) * 64 + d.toNat % 64) * 64 + f.toNat % 64) ∧ isPt ((((c.toNat - 240) * 64 + b.toNat % 64) * 64 + d.toNat % 64) * 64 + f.toNat % 64) := by
  refine ⟨?_, by unfold isPt; omega⟩
  unfold ptB
  rw [if_neg (by omega), if_neg (by omega), if_neg (by omega), ← u8_of (b := c) (by omega), ← u8_of (b := b) (by omega), ← u8_of (b := d) (by omega), ← u8_of (b := f) (by omega)]
/-- A lead byte's row. -/
theorem kOf_row {c k : Nat} (h : kOf c = k) (hk : k ≠ 9) : k = 0 ∧ c < 128 ∧ moreN k = 0 ∧ markN k = 0 ∨ k = 1 ∧ 194 ≤ c ∧ c < 224 ∧ moreN k = 1 ∧ markN k = 192 ∨
    (2 ≤ k ∧ k ≤ 5 ∧ 224 ≤ c ∧ c < 240 ∧ moreN k = 2 ∧ markN k = 224 ∧ (c = 224 → k = 2) ∧ (c = 237 → k = 4)) ∨ (6 ≤ k ∧ k ≤ 8 ∧ 240 ≤ c ∧ c < 245 ∧ moreN k = 3 ∧ markN k = 240 ∧ (c = 240 → k = 6) ∧ (c = 244 → k = 8)) := by
  unfold kOf at h
  unfold moreN markN
  (repeat' split at h) <;> subst h <;> simp <;> omega
/-- What is whole is its point's bytes. -/
theorem whole_pt {l : List UInt8} (h : (look l).st = 0) : l.take (look l).size = ptB (look l).point ∧ isPt (look l).point := by
  cases l with
  | nil => simp [look] at h
  | cons c r =>
    have hc : c.toNat < 256 := c.toNat_lt
    simp only [look] at h ⊢
    split at h
    · simp at h
    · rename_i hk
      rw [if_neg hk]
      generalize hkk : kOf c.toNat = k at h hk ⊢
      obtain ⟨e1, e2, -, -⟩ := goOn_end k (moreN k) 1 (c.toNat - markN k) r _ rfl
      have e2 := e2 h
      have hs := (goOn_size k (moreN k) 1 (c.toNat - markN k) r).2.2.1
      rw [e2] at hs e1
      clear e2 h
      rcases kOf_row hkk hk with ⟨_, hl, hm, hn⟩ | ⟨_, hl, hl', hm, hn⟩ | ⟨_, _, hl, hl', hm, hn, x1, x2⟩ | ⟨_, _, hl, hl', hm, hn, x1, x2⟩
      · rw [hm, hn, goOn]
        refine ⟨?_, by show isPt (c.toNat - 0); unfold isPt; omega⟩
        show c :: r.take 0 = ptB (c.toNat - 0)
        unfold ptB
        rw [if_pos (by omega), ← u8_of (b := c) (by omega), List.take_zero]
      · rw [hm] at hs e1
        obtain ⟨b, r, rfl⟩ : ∃ b r', r = b :: r' := by cases r with | nil => simp at hs | cons b r => exact ⟨b, r, rfl⟩
        have g1 : inR k 1 b.toNat := e1 0 (by simp) (by omega)
        have c1 := inR_cont g1
        rw [hm, hn, goOn1 g1]
        exact pt2 c b hl hl' c1.1 c1.2
      · rw [hm] at hs e1
        obtain ⟨b, d, r, rfl⟩ : ∃ b d r', r = b :: d :: r' := by
          cases r with
          | nil => simp at hs
          | cons b r => cases r with
            | nil => simp at hs
            | cons d r => exact ⟨b, d, r, rfl⟩
        have g1 : inR k 1 b.toNat := e1 0 (by simp) (by omega)
        have g2 : inR k 2 d.toNat := e1 1 (by simp) (by omega)
        have c1 := inR_cont g1
        have c2 := inR_cont g2
        rw [hm, hn, goOn2 g1 g2]
        exact pt3 c b d hl hl' c1.1 c1.2 (fun h => by have := x1 h; subst this; exact g1.1) (fun h => by have := x2 h; subst this; exact g1.2) c2.1 c2.2
      · rw [hm] at hs e1
        obtain ⟨b, d, f, r, rfl⟩ : ∃ b d f r', r = b :: d :: f :: r' := by
          cases r with
          | nil => simp at hs
          | cons b r => cases r with
            | nil => simp at hs
            | cons d r => cases r with
              | nil => simp at hs
              | cons f r => exact ⟨b, d, f, r, rfl⟩
        have g1 : inR k 1 b.toNat := e1 0 (by simp) (by omega)
        have g2 : inR k 2 d.toNat := e1 1 (by simp) (by omega)
        have g3 : inR k 3 f.toNat := e1 2 (by simp) (by omega)
        have c1 := inR_cont g1
        have c2 := inR_cont g2
        have c3 := inR_cont g3
        rw [hm, hn, goOn3 g1 g2 g3]
        exact pt4 c b d f hl hl' c1.1 c1.2 (fun h => by have := x1 h; subst this; exact g1.1) (fun h => by have := x2 h; subst this; exact g1.2) c2.1 c2.2 c3.1 c3.2
theorem look_pt {l : List UInt8} (h : (look l).st ≠ 0) : (look l).point = 65533 := by
  cases l with
  | nil => rfl
  | cons c r =>
    simp only [look] at h ⊢
    split
    · rfl
    · rename_i hk
      rw [if_neg hk] at h
      have hs := (goOn_size (kOf c.toNat) (moreN (kOf c.toNat)) 1 (c.toNat - markN (kOf c.toNat)) r).2.2.2
      have e1 := fun h => ((goOn_end (kOf c.toNat) (moreN (kOf c.toNat)) 1 (c.toNat - markN (kOf c.toNat)) r _ rfl).2.2.1 h).1
      have e2 := fun h => ((goOn_end (kOf c.toNat) (moreN (kOf c.toNat)) 1 (c.toNat - markN (kOf c.toNat)) r _ rfl).2.2.2 h).1
      generalize goOn (kOf c.toNat) (moreN (kOf c.toNat)) 1 (c.toNat - markN (kOf c.toNat)) r = x at h hs e1 e2 ⊢
      have hx : x.st = 1 ∨ x.st = 2 := by omega
      rcases hx with h1 | h1
      · exact e1 h1
      · exact e2 h1
/-- Always a point's bytes are told. -/
theorem told_pt (l : List UInt8) : told l = ptB (look l).point := by
  unfold told
  split
  · rename_i h; exact (whole_pt h).1
  · rename_i h; rw [look_pt h, ptB_inst]
theorem look_isPt (l : List UInt8) : isPt (look l).point := by
  by_cases h : (look l).st = 0
  · exact (whole_pt h).2
  · rw [look_pt h]; decide
theorem u8_kOf {n k : Nat} (hn : n < 256) (h : kOf n = k) : kOf (u8 n).toNat = k := by rw [u8_toNat hn]; exact h
theorem kOf3 {q : Nat} (h : q ≤ 15) : 2 ≤ kOf (224 + q) ∧ kOf (224 + q) ≤ 5 ∧ (kOf (224 + q) = 2 → q = 0) ∧ (kOf (224 + q) = 4 → q = 13) := by
  unfold kOf
  (repeat' split) <;> omega
theorem kOf4 {q : Nat} (h : q ≤ 4) : 6 ≤ kOf (240 + q) ∧ kOf (240 + q) ≤ 8 ∧ (kOf (240 + q) = 6 → q = 0) ∧ (kOf (240 + q) = 8 → q = 4) := by
  unfold kOf
  (repeat' split) <;> omega
/-- A point's bytes are that point's. -/
theorem pt_look {n : Nat} (h : isPt n) (y : List UInt8) : look (ptB n ++ y) = ⟨n, (ptB n).length, 0⟩ := by
  unfold isPt at h
  unfold ptB
  have key : ∀ (c : Nat) (r : List UInt8) (k m q : Nat), c < 256 → kOf c = k → k ≠ 9 → moreN k = m → c - markN k = q → look (u8 c :: r) = goOn k m 1 q r := by
    intro c r k m q hc h1 h2 h3 h4
    rw [look, u8_toNat hc, h1, if_neg h2, h3, h4]
  split
  · rw [List.cons_append, key n _ 0 0 n (by omega) (by unfold kOf; rw [if_pos (by omega)]) (by decide) rfl (by simp [markN]), goOn]; rfl
  · split
    · have g1 : inR 1 1 (u8 (128 + n % 64)).toNat := by rw [u8_toNat (by omega)]; unfold inR loN hiN; simp; omega
      rw [List.cons_append, List.cons_append, key (192 + n / 64) _ 1 1 (n / 64) (by omega) (by unfold kOf; (repeat' split) <;> omega) (by decide) rfl (by simp [markN]), goOn1 g1, u8_toNat (by omega)]
      exact congrArg (fun x => Look.mk x _ 0) (by omega)
    · split
      · obtain ⟨k, hk, h2⟩ : ∃ k, kOf (224 + n / 4096) = k ∧ 2 ≤ k ∧ k ≤ 5 ∧ (k = 2 → n / 4096 = 0) ∧ (k = 4 → n / 4096 = 13) := ⟨_, rfl, kOf3 (by omega)⟩
        have hm : moreN k = 2 ∧ markN k = 224 := by unfold moreN markN; (repeat' split) <;> omega
        have g1 : inR k 1 (u8 (128 + n / 64 % 64)).toNat := by rw [u8_toNat (by omega)]; unfold inR loN hiN; (repeat' split) <;> omega
        have g2 : inR k 2 (u8 (128 + n % 64)).toNat := by rw [u8_toNat (by omega)]; unfold inR loN hiN; (repeat' split) <;> omega
        rw [List.cons_append, List.cons_append, List.cons_append, key (224 + n / 4096) _ k 2 (n / 4096) (by omega) hk (by omega) hm.1 (by rw [hm.2]; omega), goOn2 g1 g2, u8_toNat (by omega), u8_toNat (by omega)]
        exact congrArg (fun x => Look.mk x _ 0) (by omega)
      · obtain ⟨k, hk, h2⟩ : ∃ k, kOf (240 + n / 262144) = k ∧ 6 ≤ k ∧ k ≤ 8 ∧ (k = 6 → n / 262144 = 0) ∧ (k = 8 → n / 262144 = 4) := ⟨_, rfl, kOf4 (by omega)⟩
        have hm : moreN k = 3 ∧ markN k = 240 := by unfold moreN markN; (repeat' split) <;> omega
        have g1 : inR k 1 (u8 (128 + n / 4096 % 64)).toNat := by rw [u8_toNat (by omega)]; unfold inR loN hiN; (repeat' split) <;> omega
        have g2 : inR k 2 (u8 (128 + n / 64 % 64)).toNat := by rw [u8_toNat (by omega)]; unfold inR loN hiN; (repeat' split) <;> omega
        have g3 : inR k 3 (u8 (128 + n % 64)).toNat := by rw [u8_toNat (by omega)]; unfold inR loN hiN; (repeat' split) <;> omega
        rw [List.cons_append, List.cons_append, List.cons_append, List.cons_append, key (240 + n / 262144) _ k 3 (n / 262144) (by omega) hk (by omega) hm.1 (by rw [hm.2]; omega), goOn3 g1 g2 g3, u8_toNat (by omega), u8_toNat (by omega), u8_toNat (by omega)]
        exact congrArg (fun x => Look.mk x _ 0) (by omega)
theorem pt_sound {n : Nat} (h : isPt n) : SoundL (ptB n) := by
  have e := pt_look h []
  rw [List.append_nil] at e
  have hne : ptB n ≠ [] := by unfold ptB; (repeat' split) <;> simp
  rw [sound_look hne, e]
  exact ⟨rfl, by simp only [List.drop_length]; rfl⟩
end Go.Proofs.YthdmmlaahjgijaaDoor
