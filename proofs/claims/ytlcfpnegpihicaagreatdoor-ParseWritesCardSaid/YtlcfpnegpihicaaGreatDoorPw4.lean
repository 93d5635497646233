import Derived.Test.YtlcfpnegpihicaaGreatDoorPw3
import Derived.Test.YtlcfpnegpihicaaGreatDoorPw1
import Derived.Deep.MidRow
import Derived.Laws.BitsLemmas
import Derived.Laws.BitsAllLaws
import Derived.WalkSpells
import Derived.WalkLawsBesides
import Derived.Outline
import Derived.Laws.CopyOwn
import Derived.Laws.IdiomStrings
import Derived.Laws.BytesArg
import Derived.Test.YtlcfpnegpihicaaGreatDoorCards
import Derived.Test.YtlcfpnegpihicaaGreatDoorTie
import Derived.ProofKit
import Derived.OpenShut
import Derived.Deep.Slices
import Derived.Deep.Fields
import Derived.Lib.SmallJoins
import Derived.Deep.DeepHandedRow
import Derived.Lib.LaidTab
import Derived.RangeFuncLeaves
import Derived.RangeFuncRecord
namespace Go.Proofs.YtlcfpnegpihicaaGreatDoor

/-! ## A point's bytes -/
def isPt (n : Nat) : Prop := n ≤ 1114111 ∧ (n < 55296 ∨ 57343 < n)
instance (n : Nat) : Decidable (isPt n) := inferInstanceAs (Decidable (_ ∧ _))
def u8 (n : Nat) : UInt8 := UInt8.ofNat n
theorem u8_toNat {n : Nat} (h : n < 256) : (u8 n).toNat = n := by
  show n % 256 = n
  omega
theorem u8_of {b : UInt8} {n : Nat} (h : b.toNat = n) : b = u8 n := by
  subst h
  exact (UInt8.ofNat_toNat).symm
def ptB (n : Nat) : List UInt8 :=
  if n < 128 then [u8 n] else if n < 2048 then [u8 (192 + n / 64), u8 (128 + n % 64)]
  else if n < 65536 then [u8 (224 + n / 4096), u8 (128 + n / 64 % 64), u8 (128 + n % 64)]
  else [u8 (240 + n / 262144), u8 (128 + n / 4096 % 64), u8 (128 + n / 64 % 64), u8 (128 + n % 64)]
theorem ptB_inst : ptB 65533 = inst := by decide
theorem goOn1 {k p : Nat} {b : UInt8} {r : List UInt8} (g1 : inR k 1 b.toNat) : goOn k 1 1 p (b :: r) = ⟨p * 64 + b.toNat % 64, 2, 0⟩ := by
  show goOn k (0 + 1) 1 p (b :: r) = _
  rw [goOn, if_pos g1, goOn]
theorem goOn2 {k p : Nat} {b d : UInt8} {r : List UInt8} (g1 : inR k 1 b.toNat) (g2 : inR k 2 d.toNat) : goOn k 2 1 p (b :: d :: r) = ⟨(p * 64 + b.toNat % 64) * 64 + d.toNat % 64, 3, 0⟩ := by
  show goOn k (0 + 1 + 1) 1 p (b :: d :: r) = _
  rw [goOn, if_pos g1, goOn, if_pos g2, goOn]
theorem goOn3 {k p : Nat} {b d f : UInt8} {r : List UInt8} (g1 : inR k 1 b.toNat) (g2 : inR k 2 d.toNat) (g3 : inR k 3 f.toNat) : goOn k 3 1 p (b :: d :: f :: r) = ⟨((p * 64 + b.toNat % 64) * 64 + d.toNat % 64) * 64 + f.toNat % 64, 4, 0⟩ := by
  show goOn k (0 + 1 + 1 + 1) 1 p (b :: d :: f :: r) = _
  rw [goOn, if_pos g1, goOn, if_pos g2, goOn, if_pos g3, goOn]
theorem pt2 (c b : UInt8) (h1 : 194 ≤ c.toNat) (h2 : c.toNat < 224) (h3 : 128 ≤ b.toNat) (h4 : b.toNat ≤ 191) : [c, b] = ptB ((c.toNat - 192) * 64 + b.toNat % 64) ∧ isPt ((c.toNat - 192) * 64 + b.toNat % 64) := by
  refine ⟨?_, by unfold isPt; omega⟩
  unfold ptB
  rw [if_neg (by omega), if_pos (by omega), ← u8_of (b := c) (by omega), ← u8_of (b := b) (by omega)]
theorem pt3 (c b d : UInt8) (h1 : 224 ≤ c.toNat) (h2 : c.toNat < 240) (h3 : 128 ≤ b.toNat) (h4 : b.toNat ≤ 191) (h5 : c.toNat = 224 → 160 ≤ b.toNat) (h6 : c.toNat = 237 → b.toNat ≤ 159) (h7 : 128 ≤ d.toNat) (h8 : d.toNat ≤ 191) :
    [c, b, d] = ptB (((c.toNat - 224) * 64 + b.toNat % 64) * 64 + d.toNat % 64) ∧ isPt (((c.toNat - 224) * 64 + b.toNat % 64) * 64 + d.toNat % 64) := by
  refine ⟨?_, by unfold isPt; omega⟩
  unfold ptB
  rw [if_neg (by omega), if_neg (by omega), if_pos (by omega), ← u8_of (b := c) (by omega), ← u8_of (b := b) (by omega), ← u8_of (b := d) (by omega)]
theorem pt4 (c b d f : UInt8) (h1 : 240 ≤ c.toNat) (h2 : c.toNat < 245) (h3 : 128 ≤ b.toNat) (h4 : b.toNat ≤ 191) (h5 : c.toNat = 240 → 144 ≤ b.toNat) (h6 : c.toNat = 244 → b.toNat ≤ 143) (h7 : 128 ≤ d.toNat) (h8 : d.toNat ≤ 191) (h9 : 128 ≤ f.toNat) (h10 : f.toNat ≤ 191) :
    [c, b, d, f] = ptB ((((c.toNat - 240) * 64 + b.toNat % 64) * 64 + d.toNat % 64) * 64 + f.toNat % 64) ∧ isPt ((((c.toNat - 240) * 64 + b.toNat % 64) * 64 + d.toNat % 64) * 64 + f.toNat % 64) := by
  refine ⟨?_, by unfold isPt; omega⟩
  unfold ptB
  rw [if_neg (by omega), if_neg (by omega), if_neg (by omega), ← u8_of (b := c) (by omega), ← u8_of (b := b) (by omega), ← u8_of (b := d) (by omega), ← u8_of (b := f) (by omega)]
/-- A lead byte's row. -/
theorem kOf_row {c k : Nat} (h : kOf c = k) (hk : k ≠ 9) : k = 0 ∧ c < 128 ∧ moreN k = 0 ∧ markN k = 0 ∨ k = 1 ∧ 194 ≤ c ∧ c < 224 ∧ moreN k = 1 ∧ markN k = 192 ∨
    (2 ≤ k ∧ k ≤ 5 ∧ 224 ≤ c ∧ c < 240 ∧ moreN k = 2 ∧ markN k = 224 ∧ (c = 224 → k = 2) ∧ (c = 237 → k = 4)) ∨ (6 ≤ k ∧ k ≤ 8 ∧ 240 ≤ c ∧ c < 245 ∧ moreN k = 3 ∧ markN k = 240 ∧ (c = 240 → k = 6) ∧ (c = 244 → k = 8)) := by
  unfold kOf at h
  unfold moreN markN
  (repeat' split at h) <;> subst h <;> simp <;> omega
/-- What is whole is its point's bytes. -/
theorem whole_pt {l : List UInt8} (h : (look l).st = 0) : l.take (look l).size = ptB (look l).point ∧ isPt (look l).point := by
  cases l with
  | nil => simp [look] at h
  | cons c r =>
    have hc : c.toNat < 256 := c.toNat_lt
    simp only [look] at h ⊢
    split at h
    · simp at h
    · rename_i hk
      rw [if_neg hk]
      generalize hkk : kOf c.toNat = k at h hk ⊢
      obtain ⟨e1, e2, -, -⟩ := goOn_end k (moreN k) 1 (c.toNat - markN k) r _ rfl
      have e2 := e2 h
      have hs := (goOn_size k (moreN k) 1 (c.toNat - markN k) r).2.2.1
      rw [e2] at hs e1
      clear e2 h
      rcases kOf_row hkk hk with ⟨_, hl, hm, hn⟩ | ⟨_, hl, hl', hm, hn⟩ | ⟨_, _, hl, hl', hm, hn, x1, x2⟩ | ⟨_, _, hl, hl', hm, hn, x1, x2⟩
      · rw [hm, hn, goOn]
        refine ⟨?_, by show isPt (c.toNat - 0); unfold isPt; omega⟩
        show c :: r.take 0 = ptB (c.toNat - 0)
        unfold ptB
        rw [if_pos (by omega), ← u8_of (b := c) (by omega), List.take_zero]
      · rw [hm] at hs e1
        obtain ⟨b, r, rfl⟩ : ∃ b r', r = b :: r' := by cases r with | nil => simp at hs | cons b r => exact ⟨b, r, rfl⟩
        have g1 : inR k 1 b.toNat := e1 0 (by simp) (by omega)
        have c1 := inR_cont g1
        rw [hm, hn, goOn1 g1]
        exact pt2 c b hl hl' c1.1 c1.2
      · rw [hm] at hs e1
        obtain ⟨b, d, r, rfl⟩ : ∃ b d r', r = b :: d :: r' := by
          cases r with
          | nil => simp at hs
          | cons b r => cases r with
            | nil => simp at hs
            | cons d r => exact ⟨b, d, r, rfl⟩
        have g1 : inR k 1 b.toNat := e1 0 (by simp) (by omega)
        have g2 : inR k 2 d.toNat := e1 1 (by simp) (by omega)
        have c1 := inR_cont g1
        have c2 := inR_cont g2
        rw [hm, hn, goOn2 g1 g2]
        exact pt3 c b d hl hl' c1.1 c1.2 (fun h => by have := x1 h; subst this; exact g1.1) (fun h => by have := x2 h; subst this; exact g1.2) c2.1 c2.2
      · rw [hm] at hs e1
        obtain ⟨b, d, f, r, rfl⟩ : ∃ b d f r', r = b :: d :: f :: r' := by
          cases r with
          | nil => simp at hs
          | cons b r => cases r with
            | nil => simp at hs
            | cons d r => cases r with
              | nil => simp at hs
              | cons f r => exact ⟨b, d, f, r, rfl⟩
        have g1 : inR k 1 b.toNat := e1 0 (by simp) (by omega)
        have g2 : inR k 2 d.toNat := e1 1 (by simp) (by omega)
        have g3 : inR k 3 f.toNat := e1 2 (by simp) (by omega)
        have c1 := inR_cont g1
        have c2 := inR_cont g2
        have c3 := inR_cont g3
        rw [hm, hn, goOn3 g1 g2 g3]
        exact pt4 c b d f hl hl' c1.1 c1.2 (fun h => by have := x1 h; subst this; exact g1.1) (fun h => by have := x2 h; subst this; exact g1.2) c2.1 c2.2 c3.1 c3.2
theorem look_pt {l : List UInt8} (h : (look l).st ≠ 0) : (look l).point = 65533 := by
  cases l with
  | nil => rfl
  | cons c r =>
    simp only [look] at h ⊢
    split
    · rfl
    · rename_i hk
      rw [if_neg hk] at h
      have hs := (goOn_size (kOf c.toNat) (moreN (kOf c.toNat)) 1 (c.toNat - markN (kOf c.toNat)) r).2.2.2
      have e1 := fun h => ((goOn_end (kOf c.toNat) (moreN (kOf c.toNat)) 1 (c.toNat - markN (kOf c.toNat)) r _ rfl).2.2.1 h).1
      have e2 := fun h => ((goOn_end (kOf c.toNat) (moreN (kOf c.toNat)) 1 (c.toNat - markN (kOf c.toNat)) r _ rfl).2.2.2 h).1
      generalize goOn (kOf c.toNat) (moreN (kOf c.toNat)) 1 (c.toNat - markN (kOf c.toNat)) r = x at h hs e1 e2 ⊢
      have hx : x.st = 1 ∨ x.st = 2 := by omega
      rcases hx with h1 | h1
      · exact e1 h1
      · exact e2 h1
/-- Always a point's bytes are told. -/
theorem told_pt (l : List UInt8) : told l = ptB (look l).point := by
  unfold told
  split
  · rename_i h; exact (whole_pt h).1
  · rename_i h; rw [look_pt h, ptB_inst]
theorem look_isPt (l : List UInt8) : isPt (look l).point := by
  by_cases h : (look l).st = 0
  · exact (whole_pt h).2
  · rw [look_pt h]; decide
theorem kOf3 {q : Nat} (h : q ≤ 15) : 2 ≤ kOf (224 + q) ∧ kOf (224 + q) ≤ 5 ∧ (kOf (224 + q) = 2 → q = 0) ∧ (kOf (224 + q) = 4 → q = 13) := by
  unfold kOf
  (repeat' split) <;> omega
theorem kOf4 {q : Nat} (h : q ≤ 4) : 6 ≤ kOf (240 + q) ∧ kOf (240 + q) ≤ 8 ∧ (kOf (240 + q) = 6 → q = 0) ∧ (kOf (240 + q) = 8 → q = 4) := by
  unfold kOf
  (repeat' split) <;> omega
/-- A point's bytes are that point's. -/
theorem pt_look {n : Nat} (h : isPt n) (y : List UInt8) : look (ptB n ++ y) = ⟨n, (ptB n).length, 0⟩ := by
  unfold isPt at h
  unfold ptB
  have key : ∀ (c : Nat) (r : List UInt8) (k m q : Nat), c < 256 → kOf c = k → k ≠ 9 → moreN k = m → c - markN k = q → look (u8 c :: r) = goOn k m 1 q r := by
    intro c r k m q hc h1 h2 h3 h4
    rw [look, u8_toNat hc, h1, if_neg h2, h3, h4]
  split
  · rw [List.cons_append, key n _ 0 0 n (by omega) (by unfold kOf; rw [if_pos (by omega)]) (by decide) rfl (by simp [markN]), goOn]; rfl
  · split
    · have g1 : inR 1 1 (u8 (128 + n % 64)).toNat := by rw [u8_toNat (by omega)]; unfold inR loN hiN; simp; omega
      rw [List.cons_append, List.cons_append, key (192 + n / 64) _ 1 1 (n / 64) (by omega) (by unfold kOf; (repeat' split) <;> omega) (by decide) rfl (by simp [markN]), goOn1 g1, u8_toNat (by omega)]
      exact congrArg (fun x => Look.mk x _ 0) (by omega)
    · split
      · obtain ⟨k, hk, h2⟩ : ∃ k, kOf (224 + n / 4096) = k ∧ 2 ≤ k ∧ k ≤ 5 ∧ (k = 2 → n / 4096 = 0) ∧ (k = 4 → n / 4096 = 13) := ⟨_, rfl, kOf3 (by omega)⟩
        have hm : moreN k = 2 ∧ markN k = 224 := by unfold moreN markN; (repeat' split) <;> omega
        have g1 : inR k 1 (u8 (128 + n / 64 % 64)).toNat := by rw [u8_toNat (by omega)]; unfold inR loN hiN; (repeat' split) <;> omega
        have g2 : inR k 2 (u8 (128 + n % 64)).toNat := by rw [u8_toNat (by omega)]; unfold inR loN hiN; (repeat' split) <;> omega
        rw [List.cons_append, List.cons_append, List.cons_append, key (224 + n / 4096) _ k 2 (n / 4096) (by omega) hk (by omega) hm.1 (by rw [hm.2]; omega), goOn2 g1 g2, u8_toNat (by omega), u8_toNat (by omega)]
        exact congrArg (fun x => Look.mk x _ 0) (by omega)
      · obtain ⟨k, hk, h2⟩ : ∃ k, kOf (240 + n / 262144) = k ∧ 6 ≤ k ∧ k ≤ 8 ∧ (k = 6 → n / 262144 = 0) ∧ (k = 8 → n / 262144 = 4) := ⟨_, rfl, kOf4 (by omega)⟩
        have hm : moreN k = 3 ∧ markN k = 240 := by unfold moreN markN; (repeat' split) <;> omega
        have g1 : inR k 1 (u8 (128 + n / 4096 % 64)).toNat := by rw [u8_toNat (by omega)]; unfold inR loN hiN; (repeat' split) <;> omega
        have g2 : inR k 2 (u8 (128 + n / 64 % 64)).toNat := by rw [u8_toNat (by omega)]; unfold inR loN hiN; (repeat' split) <;> omega
        have g3 : inR k 3 (u8 (128 + n % 64)).toNat := by rw [u8_toNat (by omega)]; unfold inR loN hiN; (repeat' split) <;> omega
        rw [List.cons_append, List.cons_append, List.cons_append, List.cons_append, key (240 + n / 262144) _ k 3 (n / 262144) (by omega) hk (by omega) hm.1 (by rw [hm.2]; omega), goOn3 g1 g2 g3, u8_toNat (by omega), u8_toNat (by omega), u8_toNat (by omega)]
        exact congrArg (fun x => Look.mk x _ 0) (by omega)
theorem pt_sound {n : Nat} (h : isPt n) : SoundL (ptB n) := by
  have e := pt_look h []
  rw [List.append_nil] at e
  have hne : ptB n ≠ [] := by unfold ptB; (repeat' split) <;> simp
  rw [sound_look hne, e]
  exact ⟨rfl, by simp only [List.drop_length]; rfl⟩
end Go.Proofs.YtlcfpnegpihicaaGreatDoor

namespace Go.Proofs.YtlcfpnegpihicaaGreatDoor
open Go.RowKit

/-! ## Lead bytes -/
def leastN (k : Nat) : Int := if k = 0 then 0 else if k = 1 then 128 else if k = 2 then 2048 else if k = 3 then 4096 else if k = 4 then 53248 else if k = 5 then 57344 else if k = 6 then 65536 else if k = 7 then 262144 else 1048576
def mostN (k : Nat) : Int := if k = 0 then 127 else if k = 1 then 2047 else if k = 2 then 4095 else if k = 3 then 53247 else if k = 4 then 55295 else if k = 5 then 65535 else if k = 6 then 262143 else if k = 7 then 1048575 else 1114111
def rowV (k : Nat) : Array Value := #[.int .i64 (leastN k), .int .i64 (mostN k), .int .u8 (markN k : Int), .int .i64 (moreN k : Int)]
/-- The byte at place j of a point's bytes, by a mark and how many bytes come behind. -/
def byteN (mark more p j : Nat) : Nat := if j = 0 then mark + p / 64 ^ more else 128 + p / 64 ^ (more - j) % 64
theorem join_lead {m b : Nat} (h : m = 0 ∧ b < 128 ∨ m = 192 ∧ b < 32 ∨ m = 224 ∧ b < 16 ∨ m = 240 ∧ b < 8) : bits .or .u8 (m : Int) (b : Int) = ((m + b : Nat) : Int) := by
  rcases h with ⟨rfl, h⟩ | ⟨rfl, h⟩ | ⟨rfl, h⟩ | ⟨rfl, h⟩
  · rw [u8_or_nat 0 b (by omega) (by omega)]; simp
  · exact (u8_or192 (b : Int) (by omega) (by omega)).trans (by omega)
  · exact (u8_or224 (b : Int) (by omega) (by omega)).trans (by omega)
  · exact (u8_or240 (b : Int) (by omega) (by omega)).trans (by omega)
theorem wraps_i64 (n : Int) (h₀ : 0 ≤ n) (h₁ : n < 2 ^ 62) : IntKind.i64.wrap n = n := by
  rw [IntKind.wrap_i64]
  have : (2 : Int) ^ 62 = 4611686018427387904 := by decide
  omega
theorem i64_and63 (x : Int) (h₀ : 0 ≤ x) (h₁ : x < 2 ^ 62) : bits .and .i64 x 63 = x % 64 := bits_mask .i64 62 (by decide) wraps_i64 6 (by decide) x h₀ h₁

theorem shifted (p m : Nat) : ((p : Int) / 2 ^ (6 * m)) = ((p / 64 ^ m : Nat) : Int) := by
  have : (2 : Int) ^ (6 * m) = ((64 ^ m : Nat) : Int) := by
    rw [Int.pow_mul]; simp
  rw [this]; simp
theorem ret_u8 {a b : Int} (h : a = b) : Ending.returned (.int .u8 a) = .returned (.int .u8 b) := by rw [h]
theorem ret_boolU {a b : Bool} (h : a = b) : Ending.returned (.bool a) = .returned (.bool b) := by rw [h]

section
set_option maxHeartbeats 400000
theorem byteOf_any (a b : Int) (mark more p j : Nat) (w : World) (hm : more ≤ 3) (hj : j ≤ more) (hp : p ≤ 1114111) (hmk : mark = 0 ∧ p / 64 ^ more < 128 ∨ mark = 192 ∧ p / 64 ^ more < 32 ∨ mark = 224 ∧ p / 64 ^ more < 16 ∨ mark = 240 ∧ p / 64 ^ more < 8) :
    Calls Tryz.prog 161 #[.agg #[.int .i64 a, .int .i64 b, .int .u8 (mark : Int), .int .i64 (more : Int)], .int .i64 (p : Int), .int .i64 (j : Int)] w
      fun e w' => e = .returned (.int .u8 ((byteN mark more p j : Nat) : Int)) ∧ Below w.heap.size w w' := by
  have hmk' := Lib.hid hmk
  clear hmk
  by_cases h0 : j = 0
  · subst h0
    go_enter Tryz.func161, Tryz.ntmps161
    go_wp2
    go_ret
    refine ⟨ret_u8 ?_, (Below.refl _ _).alloc (Nat.le_refl _) _⟩
    have hb : p / 64 ^ more < 256 := by rcases hmk'.out with h | h | h | h <;> omega
    rw [shifted, byteN, if_pos rfl]
    have hmk2 := hmk'.out
    generalize p / 64 ^ more = q at hb hmk2 ⊢
    rw [show ((q : Int) % 256) = (q : Int) from by omega, join_lead hmk2]
  · go_enter Tryz.func161, Tryz.ntmps161
    go_wp2
    go_ret
    refine ⟨ret_u8 ?_, (Below.refl _ _).alloc (Nat.le_refl _) _⟩
    have hs := shifted p (more - j)
    have hle : p / 64 ^ (more - j) ≤ p := Nat.div_le_self _ _
    have h62 : (2 : Int) ^ 62 = 4611686018427387904 := by decide
    rw [hs, byteN, if_neg h0]
    generalize p / 64 ^ (more - j) = q at hle ⊢
    rw [i64_and63 _ (by omega) (by omega)]
    rw [show ((q : Int) % 64 % 256) = ((q % 64 : Nat) : Int) from by omega]
    exact (u8_or128 _ (by omega) (by omega)).trans (by omega)
end

/-- Row k takes a byte at place j. -/
def takesB (k b j : Nat) : Bool := decide (byteN (markN k) (moreN k) (leastN k).toNat j ≤ b) && decide (b ≤ byteN (markN k) (moreN k) (mostN k).toNat j)
theorem leastN_ok {k : Nat} (_hk : k < 9) : 0 ≤ leastN k ∧ leastN k ≤ 1114111 ∧ 0 ≤ mostN k ∧ mostN k ≤ 1114111 := by unfold leastN mostN; (repeat' split) <;> omega
theorem marks_ok {k : Nat} (hk : k < 9) : ∀ p : Nat, (p = (leastN k).toNat ∨ p = (mostN k).toNat) → markN k = 0 ∧ p / 64 ^ moreN k < 128 ∨ markN k = 192 ∧ p / 64 ^ moreN k < 32 ∨ markN k = 224 ∧ p / 64 ^ moreN k < 16 ∨ markN k = 240 ∧ p / 64 ^ moreN k < 8 := by
  have hks : k = 0 ∨ k = 1 ∨ k = 2 ∨ k = 3 ∨ k = 4 ∨ k = 5 ∨ k = 6 ∨ k = 7 ∨ k = 8 := by omega
  rcases hks with rfl | rfl | rfl | rfl | rfl | rfl | rfl | rfl | rfl <;> (rintro p (rfl | rfl) <;> decide)
set_option maxHeartbeats 1000000 in
theorem takes_lead {k b : Nat} (hk : k < 9) : takesB k b 0 = decide (kOf b = k) := by
  have hks : k = 0 ∨ k = 1 ∨ k = 2 ∨ k = 3 ∨ k = 4 ∨ k = 5 ∨ k = 6 ∨ k = 7 ∨ k = 8 := by omega
  have key : ∀ lo hi : Nat, byteN (markN k) (moreN k) (leastN k).toNat 0 = lo → byteN (markN k) (moreN k) (mostN k).toNat 0 = hi → ((lo ≤ b ∧ b ≤ hi) ↔ kOf b = k) → takesB k b 0 = decide (kOf b = k) := by
    intro lo hi h1 h2 h3
    unfold takesB
    rw [h1, h2, Bool.eq_iff_iff]
    simpa using h3
  rcases hks with rfl | rfl | rfl | rfl | rfl | rfl | rfl | rfl | rfl
  · exact key 0 127 (by decide) (by decide) (by unfold kOf; (repeat' split) <;> omega)
  · exact key 194 223 (by decide) (by decide) (by unfold kOf; (repeat' split) <;> omega)
  · exact key 224 224 (by decide) (by decide) (by unfold kOf; (repeat' split) <;> omega)
  · exact key 225 236 (by decide) (by decide) (by unfold kOf; (repeat' split) <;> omega)
  · exact key 237 237 (by decide) (by decide) (by unfold kOf; (repeat' split) <;> omega)
  · exact key 238 239 (by decide) (by decide) (by unfold kOf; (repeat' split) <;> omega)
  · exact key 240 240 (by decide) (by decide) (by unfold kOf; (repeat' split) <;> omega)
  · exact key 241 243 (by decide) (by decide) (by unfold kOf; (repeat' split) <;> omega)
  · exact key 244 244 (by decide) (by decide) (by unfold kOf; (repeat' split) <;> omega)
theorem takes_in {k j b : Nat} (hk : k < 9) (h1 : 1 ≤ j) (hj : j ≤ moreN k) : takesB k b j = decide (inR k j b) := by
  have hks : k = 0 ∨ k = 1 ∨ k = 2 ∨ k = 3 ∨ k = 4 ∨ k = 5 ∨ k = 6 ∨ k = 7 ∨ k = 8 := by omega
  have hjs : j = 1 ∨ j = 2 ∨ j = 3 := by have := moreN_le k; omega
  have key : byteN (markN k) (moreN k) (leastN k).toNat j = loN k j → byteN (markN k) (moreN k) (mostN k).toNat j = hiN k j → takesB k b j = decide (inR k j b) := by
    intro h1 h2
    unfold takesB
    rw [h1, h2, Bool.eq_iff_iff]
    simp only [Bool.and_eq_true, decide_eq_true_eq]
    exact Iff.rfl
  rcases hks with rfl | rfl | rfl | rfl | rfl | rfl | rfl | rfl | rfl <;> rcases hjs with rfl | rfl | rfl <;> first | exact key (by decide) (by decide) | (exfalso; revert hj; decide)

theorem bcell {W w1 : World} (hb : Below W.heap.size W w1) : (∀ b o, b < W.heap.size → w1.cell? ⟨b, o, none⟩ = W.cell? ⟨b, o, none⟩) ∧ (∀ b o, b < W.heap.size → w1.frozen? ⟨b, o, none⟩ = W.frozen? ⟨b, o, none⟩) :=
  ⟨fun b o h => hb.cell (p := ⟨b, o, none⟩) h, fun b o h => hb.frozen (p := ⟨b, o, none⟩) h⟩
section
set_option maxHeartbeats 800000
theorem takes_any (k b j : Nat) (w : World) (hk : k < 9) (hj : j ≤ moreN k) :
    Calls Tryz.prog 151 #[.agg (rowV k), .int .u8 (b : Int), .int .i64 (j : Int)] w fun e w' => e = .returned (.bool (takesB k b j)) ∧ Below w.heap.size w w' := by
  have hl := leastN_ok hk
  have hm := moreN_le k
  obtain ⟨l, hl1⟩ := Int.eq_ofNat_of_zero_le hl.1
  obtain ⟨m, hm1⟩ := Int.eq_ofNat_of_zero_le hl.2.2.1
  have c1 := fun w => byteOf_any (leastN k) (mostN k) (markN k) (moreN k) l j w hm hj (by omega) (marks_ok hk l (.inl (by omega)))
  have c2 := fun w => byteOf_any (leastN k) (mostN k) (markN k) (moreN k) m j w hm hj (by omega) (marks_ok hk m (.inr (by omega)))
  have e1 : takesB k b j = (decide (byteN (markN k) (moreN k) l j ≤ b) && decide (b ≤ byteN (markN k) (moreN k) m j)) := by
    unfold takesB; rw [hl1, hm1]; rfl
  rw [e1]
  unfold rowV
  rw [hl1, hm1] at c1 c2 ⊢
  clear e1 hl
  have hid := Lib.hid (And.intro hl1 hm1)
  clear hl1 hm1
  have d1 := Lib.hid c1
  have d2 := Lib.hid c2
  clear c1 c2
  generalize byteN (markN k) (moreN k) l j = x at d1 ⊢
  generalize byteN (markN k) (moreN k) m j = y at d2 ⊢
  generalize (markN k) = mk at d1 d2 ⊢
  generalize (moreN k) = mr at d1 d2 ⊢
  have hid2 := Lib.hid hm
  have hid3 := Lib.hid hj
  clear hm hj
  by_cases hx : x ≤ b
  · go_enter Tryz.func151, Tryz.ntmps151
    go_wp2_with fail
    refine (d1.out _).mono ?_
    rintro e w1 ⟨rfl, hb1⟩
    obtain ⟨hc, hf⟩ := bcell hb1
    go_wp2_with fail
    refine (d2.out _).mono ?_
    rintro e w2 ⟨rfl, hb2⟩
    go_wp2
    go_ret
    exact ⟨ret_boolU (by simp [hx]), below_on (below_on ((Below.refl _ _).alloc (Nat.le_refl _) _) hb1) hb2⟩
  · go_enter Tryz.func151, Tryz.ntmps151
    go_wp2_with fail
    refine (d1.out _).mono ?_
    rintro e w1 ⟨rfl, hb1⟩
    obtain ⟨hc, hf⟩ := bcell hb1
    have hx2 : decide (x ≤ b) = false := by simpa using hx
    go_wp2
    go_ret
    exact ⟨ret_boolU (by simp [hx]), below_on ((Below.refl _ _).alloc (Nat.le_refl _) _) hb1⟩
end

/-! ## The table -/
def leadsCells : List Value := [.int .i64 0, .int .i64 127, .int .u8 0, .int .i64 0, .int .i64 128, .int .i64 2047, .int .u8 192, .int .i64 1, .int .i64 2048, .int .i64 4095, .int .u8 224, .int .i64 2, .int .i64 4096, .int .i64 53247, .int .u8 224, .int .i64 2, .int .i64 53248, .int .i64 55295, .int .u8 224, .int .i64 2, .int .i64 57344, .int .i64 65535, .int .u8 224, .int .i64 2, .int .i64 65536, .int .i64 262143, .int .u8 240, .int .i64 3, .int .i64 262144, .int .i64 1048575, .int .u8 240, .int .i64 3, .int .i64 1048576, .int .i64 1114111, .int .u8 240, .int .i64 3]
def TabU (W : World) : Prop := ∃ t cs, Has W 6 t cs ∧ ∀ (j : Nat) (v : Value), leadsCells[j]? = some v → cs[j]? = some v
theorem TabU.range {W : World} (h : TabU W) : W.rangeAt 6 0 leadsCells := by
  obtain ⟨t, cs, h1, h2⟩ := h
  intro j v hv
  rw [Nat.zero_add]
  exact (h1.cell j).trans (h2 j v hv)
theorem TabU.lt {W : World} (h : TabU W) : 6 < W.heap.size := by
  obtain ⟨t, cs, h1, h2⟩ := h
  exact h1.lt
theorem TabU.kept {W W' : World} (h : TabU W) (hb : W'.heap[6]? = W.heap[6]?) : TabU W' := by
  obtain ⟨t, cs, h1, h2⟩ := h
  exact ⟨t, cs, hb.trans h1, h2⟩
theorem TabU.below {W W' : World} (h : TabU W) (hb : Below W.heap.size W W') : TabU W' := h.kept (hb.block _ h.lt)
theorem lead_at0 (w : World) : (Instr.index 258 (.agg leadsCells.toArray) (.int .i64 ((0 : Nat) : Int))).run Tryz.prog w = .ok (.agg (rowV 0)) w := by kernel_rfl
theorem lead_at1 (w : World) : (Instr.index 258 (.agg leadsCells.toArray) (.int .i64 ((1 : Nat) : Int))).run Tryz.prog w = .ok (.agg (rowV 1)) w := by kernel_rfl
theorem lead_at2 (w : World) : (Instr.index 258 (.agg leadsCells.toArray) (.int .i64 ((2 : Nat) : Int))).run Tryz.prog w = .ok (.agg (rowV 2)) w := by kernel_rfl
theorem lead_at3 (w : World) : (Instr.index 258 (.agg leadsCells.toArray) (.int .i64 ((3 : Nat) : Int))).run Tryz.prog w = .ok (.agg (rowV 3)) w := by kernel_rfl
theorem lead_at4 (w : World) : (Instr.index 258 (.agg leadsCells.toArray) (.int .i64 ((4 : Nat) : Int))).run Tryz.prog w = .ok (.agg (rowV 4)) w := by kernel_rfl
theorem lead_at5 (w : World) : (Instr.index 258 (.agg leadsCells.toArray) (.int .i64 ((5 : Nat) : Int))).run Tryz.prog w = .ok (.agg (rowV 5)) w := by kernel_rfl
theorem lead_at6 (w : World) : (Instr.index 258 (.agg leadsCells.toArray) (.int .i64 ((6 : Nat) : Int))).run Tryz.prog w = .ok (.agg (rowV 6)) w := by kernel_rfl
theorem lead_at7 (w : World) : (Instr.index 258 (.agg leadsCells.toArray) (.int .i64 ((7 : Nat) : Int))).run Tryz.prog w = .ok (.agg (rowV 7)) w := by kernel_rfl
theorem lead_at8 (w : World) : (Instr.index 258 (.agg leadsCells.toArray) (.int .i64 ((8 : Nat) : Int))).run Tryz.prog w = .ok (.agg (rowV 8)) w := by kernel_rfl
theorem lead_at {k : Nat} (hk : k < 9) (w : World) : (Instr.index 258 (.agg leadsCells.toArray) (.int .i64 (k : Int))).run Tryz.prog w = .ok (.agg (rowV k)) w := by
  have hks : k = 0 ∨ k = 1 ∨ k = 2 ∨ k = 3 ∨ k = 4 ∨ k = 5 ∨ k = 6 ∨ k = 7 ∨ k = 8 := by omega
  rcases hks with rfl | rfl | rfl | rfl | rfl | rfl | rfl | rfl | rfl
  · exact lead_at0 w
  · exact lead_at1 w
  · exact lead_at2 w
  · exact lead_at3 w
  · exact lead_at4 w
  · exact lead_at5 w
  · exact lead_at6 w
  · exact lead_at7 w
  · exact lead_at8 w
def zeroRow : Array Value := #[.int .i64 0, .int .i64 0, .int .u8 0, .int .i64 0]
end Go.Proofs.YtlcfpnegpihicaaGreatDoor

namespace Go.Proofs.YtlcfpnegpihicaaGreatDoor
open Go.RowKit

/-! ## Bytes in memory -/

/-- A byte as a value. -/
def byt (b : UInt8) : Value := .int .u8 (b.toNat : Int)
def byts (l : List UInt8) : List Value := l.map byt
theorem byts_length (l : List UInt8) : (byts l).length = l.length := by simp [byts]
theorem byts_append (a b : List UInt8) : byts (a ++ b) = byts a ++ byts b := by simp [byts]
theorem byts_take (l : List UInt8) (k : Nat) : byts (l.take k) = (byts l).take k := by simp [byts]
theorem byts_drop (l : List UInt8) (k : Nat) : byts (l.drop k) = (byts l).drop k := by simp [byts]
theorem byts_one (l : List UInt8) : ∀ v ∈ byts l, v.oneCell' = true := by
  intro v hv
  obtain ⟨b, _, rfl⟩ := List.mem_map.1 hv
  rfl
theorem byts_get {l : List UInt8} {j : Nat} {u : Value} (h : (byts l)[j]? = some u) : ∃ hj : j < l.length, u = byt l[j] := by
  have hj : j < l.length := by have := (List.getElem?_eq_some_iff.1 h).1; simpa [byts] using this
  refine ⟨hj, ?_⟩
  simp [byts, List.getElem?_eq_getElem hj] at h
  exact h.symm
theorem byts_at {l : List UInt8} {j : Nat} (hj : j < l.length) : (byts l)[j]? = some (byt l[j]) := by simp [byts, List.getElem?_eq_getElem hj]
theorem add_add_ (a : Addr) (i j : Nat) : (a.add i).add j = a.add (i + j) := by
  unfold Addr.add
  by_cases hi : i = 0 <;> by_cases hj : j = 0 <;> simp [hi, hj, Nat.add_assoc]
theorem add_block_ (a : Addr) (n : Nat) : (a.add n).block = a.block := by unfold Addr.add; split <;> rfl
theorem add_zero_ (b o k : Nat) : (⟨b, o, none⟩ : Addr).add k = ⟨b, o + k, none⟩ := by unfold Addr.add; split <;> simp_all

/-- From the address A on these bytes stand, in a block of which S holds (no byte: anywhere). -/
def Rd (W : World) (S : Nat → Prop) (A : Option Addr) (l : List UInt8) : Prop :=
  0 < l.length → ∃ ad, A = some ad ∧ S ad.block ∧ ∀ j u, (byts l)[j]? = some u → W.cell? (ad.add j) = some u
section
variable {W W' : World} {S : Nat → Prop} {A : Option Addr} {l : List UInt8}
theorem Rd.nil (W : World) (S : Nat → Prop) (A : Option Addr) : Rd W S A [] := fun h => absurd h (by simp)
theorem Rd.kept (h : Rd W S A l) (k : Kept S W W') : Rd W' S A l := fun hl => by
  obtain ⟨ad, rfl, hS, hc⟩ := h hl
  exact ⟨ad, rfl, hS, fun j u hu => (World.cell?_of_block (k _ (by rw [add_block_]; exact hS))).trans (hc j u hu)⟩
theorem Rd.mono (h : Rd W S A l) {S' : Nat → Prop} (k : ∀ b, S b → S' b) : Rd W S' A l := fun hl => by
  obtain ⟨ad, e, hS, hc⟩ := h hl
  exact ⟨ad, e, k _ hS, hc⟩
theorem Rd.take (h : Rd W S A l) (k : Nat) : Rd W S A (l.take k) := fun hl => by
  obtain ⟨ad, e, hS, hc⟩ := h (by rw [List.length_take] at hl; omega)
  refine ⟨ad, e, hS, fun j u hu => hc j u ?_⟩
  rw [byts_take, List.getElem?_take] at hu
  split at hu
  · exact hu
  · cases hu
theorem Rd.drop (h : Rd W S A l) (k m : Nat) (hm : l.length ≤ m) : Rd W S (if m = k then A else A.map (·.add k)) (l.drop k) := fun hl => by
  rw [List.length_drop] at hl
  obtain ⟨ad, rfl, hS, hc⟩ := h (by omega)
  rw [if_neg (by omega)]
  refine ⟨ad.add k, rfl, by rw [add_block_]; exact hS, fun j u hu => ?_⟩
  rw [add_add_]
  refine hc _ u ?_
  rw [byts_drop, List.getElem?_drop] at hu
  exact hu
/-- 'string(b)'. -/
theorem Rd.text {P : Program} (h : Rd W S A l) (src dst e : TypeId) (c : Nat) (hs : P.underlying src = some (.slice e)) (he : P.underlying e = some (.int .u8)) (hd : P.underlying dst = some .string) :
    (convert src dst (.slice A l.length c)).run P W = .ok (.string ⟨l.toArray⟩) W := by
  rcases Nat.eq_zero_or_pos l.length with h0 | h0
  · obtain rfl : l = [] := List.eq_nil_of_length_eq_zero h0
    cases A with
    | none => exact run_convert_bytes_nil W src e hs he _ c dst hd
    | some ad => exact run_convert_bytes_back W src dst e ad c [] hs he hd (fun j hj => absurd hj (by simp))
  · obtain ⟨ad, rfl, _, hc⟩ := h h0
    exact run_convert_bytes_back W src dst e ad c l hs he hd (fun j hj => hc j _ (byts_at hj))
end

/-- A slice's own row: n cells at the head of block r (no cell: anywhere). -/
def Row (W : World) (r : Nat) (t : TypeId) (A : Option Addr) (cs : List UInt8) : Prop := 0 < cs.length → A = some ⟨r, 0, none⟩ ∧ Has W r t (byts cs).toArray
theorem Row.rd {W : World} {r : Nat} {t : TypeId} {A : Option Addr} {cs : List UInt8} (h : Row W r t A cs) : Rd W (· = r) A cs := fun hl => by
  obtain ⟨rfl, hh⟩ := h hl
  refine ⟨_, rfl, rfl, fun j u hu => ?_⟩
  rw [add_zero_, hh.cell]
  simpa using hu
theorem Has.rd {W : World} {r : Nat} {t : TypeId} {cs : List UInt8} (h : Has W r t (byts cs).toArray) : Rd W (· = r) (some ⟨r, 0, none⟩) cs := Row.rd (t := t) fun _ => ⟨rfl, h⟩
theorem Row.kept {W W' : World} {r : Nat} {t : TypeId} {A : Option Addr} {cs : List UInt8} (h : Row W r t A cs) (k : W'.heap[r]? = W.heap[r]?) : Row W' r t A cs := fun hl => by
  obtain ⟨rfl, hh⟩ := h hl
  exact ⟨rfl, k.trans hh⟩
theorem Row.lt {W : World} {r : Nat} {t : TypeId} {A : Option Addr} {cs : List UInt8} (h : Row W r t A cs) (h0 : 0 < cs.length) : r < W.heap.size := (h h0).2.lt
/-- But for block g the world is as it was. -/
structure Only (g : Nat) (w w' : World) : Prop where
  os : w'.os = w.os
  tape : w'.tape = w.tape
  output : w'.output = w.output
  size : w'.heap.size = w.heap.size
  block : ∀ k, k ≠ g → w'.heap[k]? = w.heap[k]?
theorem Only.refl (g : Nat) (w : World) : Only g w w := ⟨rfl, rfl, rfl, rfl, fun _ _ => rfl⟩
theorem Only.below {g B : Nat} {w w' : World} (h : Only g w w') (hB : B ≤ g) : Below B w w' := ⟨h.os, h.tape, h.output, by rw [h.size]; exact Nat.le_refl _, fun k hk => h.block k (by omega)⟩
theorem Only.has {g k : Nat} {w w' : World} {t : TypeId} {cs : Array Value} (h : Only g w w') (hh : Has w k t cs) (hk : k ≠ g) : Has w' k t cs := (h.block k hk).trans hh
theorem only_setRow (g : Nat) (w : World) (cs : Array Value) : Only g w (w.setRow g cs) := ⟨rfl, rfl, rfl, by simp [World.setRow], fun k hk => setRow_other w g k cs hk⟩
theorem only_setCell (g i : Nat) (w : World) (u : Value) : Only g w (w.setCell ⟨g, i, none⟩ u) := ⟨rfl, rfl, rfl, by simp [World.setCell], fun k hk => Below.heap_setCell w ⟨g, i, none⟩ u k hk⟩
theorem Only.trans {g : Nat} {a b c : World} (h : Only g a b) (k : Only g b c) : Only g a c := ⟨k.os.trans h.os, k.tape.trans h.tape, k.output.trans h.output, k.size.trans h.size, fun i hi => (k.block i hi).trans (h.block i hi)⟩

end Go.Proofs.YtlcfpnegpihicaaGreatDoor

namespace Go.Proofs.YtlcfpnegpihicaaGreatDoor
open Go.ChangeShapes Go.WideShapes Go.ChangeAt Go.RowKit Go.Deep

/-! ## The tableU of lead bytes, as the rows list it -/
theorem gTab : Tryz.prog.globalNamed "bellman/utf.leads" = some 6 := by kernel_rfl
theorem gTabType : (Tryz.prog.globals[6]?).map (·.type) = some 258 := by kernel_rfl
theorem cellsTab : Tryz.prog.cellsOf 258 = 36 := by kernel_rfl
theorem cellsLead : Tryz.prog.cellsOf 242 = 4 := by kernel_rfl
theorem cells64 : Tryz.prog.cellsOf 3 = 1 := by kernel_rfl
theorem cells8 : Tryz.prog.cellsOf 5 = 1 := by kernel_rfl
theorem leadDesc : ∃ fs, Tryz.prog.underlying 242 = some (.struct fs) ∧ fs.toList.map (fun f => (f.type, f.offset)) = [(3, 0), (3, 1), (5, 2), (3, 3)] := ⟨_, Tryz.underlying242, by kernel_rfl⟩
section
variable {H : Type} {enc : TypeId × Value → H}
set_option maxRecDepth 100000 in
theorem lit_of {W : World} {sp : Nat → Bool} {held : Bool} {fuel : Nat} {t : TypeId} {k : IntKind} (ht : Tryz.prog.underlying t = some (.int k)) {v : Value} {x : Option (DataW H × List MemPlace)} {z : Int} {p : List MemPlace}
    (h : DataW.trod enc Tryz.prog W 0 sp held fuel t [v] = x) (hx : x = some (.lit (.int k z), p)) : v = .int k z := by
  rw [hx] at h
  obtain ⟨n, hc, hd, _⟩ := DataW.trod_int ht h
  injection hc with hc
  injection hd with hd _
  injection hd with hd
  injection hd with _ hd
  rw [hc, hd]
set_option maxRecDepth 100000 in
theorem row_of {W : World} {sp : Nat → Bool} {held : Bool} {fuel : Nat} {cs : List Value} {x : DataW H × List MemPlace} (h : DataW.trod enc Tryz.prog W 0 sp held fuel 242 cs = some x) (a b c d : Int)
    (hx : x.1 = .agg [.lit (.int .i64 a), .lit (.int .i64 b), .lit (.int .u8 c), .lit (.int .i64 d)]) : cs = [.int .i64 a, .int .i64 b, .int .u8 c, .int .i64 d] := by
  obtain ⟨fs, hs, hfs⟩ := leadDesc
  obtain ⟨xs, n, _, rfl, hl, hxl, hf⟩ := DataW.trod_struct hs h
  rw [cellsLead] at hl
  simp only [DataW.agg.injEq] at hx
  obtain ⟨v0, v1, v2, v3, rfl⟩ : ∃ v0 v1 v2 v3, cs = [v0, v1, v2, v3] := by
    match cs, hl with
    | [v0, v1, v2, v3], _ => exact ⟨v0, v1, v2, v3, rfl⟩
  obtain ⟨y0, y1, y2, y3, rfl⟩ : ∃ y0 y1 y2 y3, xs = [y0, y1, y2, y3] := by
    have := congrArg List.length hx
    simp at this
    match xs, this with
    | [y0, y1, y2, y3], _ => exact ⟨y0, y1, y2, y3, rfl⟩
  simp only [List.map_cons, List.map_nil, List.cons.injEq, and_true] at hx
  obtain ⟨x0, x1, x2, x3⟩ := hx
  have key : ∀ (i : Nat) (t o : Nat), (fs.toList.map (fun f => (f.type, f.offset)))[i]? = some (t, o) → DataW.trod enc Tryz.prog W 0 sp held n t (([v0, v1, v2, v3].drop o).take (Tryz.prog.cellsOf t)) = [y0, y1, y2, y3][i]? := by
    intro i t o hi
    rw [List.getElem?_map] at hi
    cases hfi : fs.toList[i]? with
    | none => rw [hfi] at hi; cases hi
    | some f =>
      rw [hfi] at hi
      simp only [Option.map_some, Option.some.injEq, Prod.mk.injEq] at hi
      have := hf i f (by rw [← Array.getElem?_toList]; exact hfi)
      rw [hi.1, hi.2] at this
      exact this
  have k0 := key 0 3 0 (by rw [hfs]; rfl)
  have k1 := key 1 3 1 (by rw [hfs]; rfl)
  have k2 := key 2 5 2 (by rw [hfs]; rfl)
  have k3 := key 3 3 3 (by rw [hfs]; rfl)
  rw [cells64] at k0 k1 k3
  rw [cells8] at k2
  have e0 := lit_of Tryz.underlying3 k0 (show some y0 = some (.lit (.int .i64 a), y0.2) by rw [← x0])
  have e1 := lit_of Tryz.underlying3 k1 (show some y1 = some (.lit (.int .i64 b), y1.2) by rw [← x1])
  have e2 := lit_of Tryz.underlying5 k2 (show some y2 = some (.lit (.int .u8 c), y2.2) by rw [← x2])
  have e3 := lit_of Tryz.underlying3 k3 (show some y3 = some (.lit (.int .i64 d), y3.2) by rw [← x3])
  rw [e0, e1, e2, e3]
end
def leadsRows : List (List Value) := [[.int .i64 0, .int .i64 127, .int .u8 0, .int .i64 0], [.int .i64 128, .int .i64 2047, .int .u8 192, .int .i64 1], [.int .i64 2048, .int .i64 4095, .int .u8 224, .int .i64 2], [.int .i64 4096, .int .i64 53247, .int .u8 224, .int .i64 2], [.int .i64 53248, .int .i64 55295, .int .u8 224, .int .i64 2], [.int .i64 57344, .int .i64 65535, .int .u8 224, .int .i64 2], [.int .i64 65536, .int .i64 262143, .int .u8 240, .int .i64 3], [.int .i64 262144, .int .i64 1048575, .int .u8 240, .int .i64 3], [.int .i64 1048576, .int .i64 1114111, .int .u8 240, .int .i64 3]]
theorem chunks {cs : List Value} (hl : cs.length = 36) (rows : List (List Value)) (hr : rows.length = 9) (h : ∀ i, i < 9 → some ((cs.drop (i * 4)).take 4) = rows[i]?) : cs = rows.flatten := by
  have h0 := h 0 (by omega); have h1 := h 1 (by omega); have h2 := h 2 (by omega); have h3 := h 3 (by omega); have h4 := h 4 (by omega)
  have h5 := h 5 (by omega); have h6 := h 6 (by omega); have h7 := h 7 (by omega); have h8 := h 8 (by omega)
  match rows, hr with
  | [a0, a1, a2, a3, a4, a5, a6, a7, a8], _ =>
    simp at h0 h1 h2 h3 h4 h5 h6 h7 h8
    subst h0; subst h1; subst h2; subst h3; subst h4; subst h5; subst h6; subst h7; subst h8
    simp only [List.flatten_cons, List.flatten_nil, List.append_nil]
    have e : ∀ k, cs.drop k = (cs.drop k).take 4 ++ cs.drop (k + 4) := fun k => by rw [← List.drop_drop, List.take_append_drop]
    have e36 : cs.drop 36 = [] := List.drop_of_length_le (by omega)
    have f0 := e 0; have f1 := e 4; have f2 := e 8; have f3 := e 12; have f4 := e 16; have f5 := e 20; have f6 := e 24; have f7 := e 28; have f8 := e 32
    simp only [Nat.reduceAdd, List.drop_zero, Nat.zero_add] at f0 f1 f2 f3 f4 f5 f6 f7 f8
    rw [e36, List.append_nil] at f8
    conv => lhs; rw [f0, f1, f2, f3, f4, f5, f6, f7]
    rw [← f8]
/-- What the row's list gives. -/
theorem tableU {W : World} (h : laidMetH Tryz.prog [("bellman/utf.leads", Rows.laid_bellman_utf_leads)] W) : TabU W := by
  obtain ⟨ps, ⟨g', t', cs, fuel, p, q, hg', ht', hvar, hd, _, hps⟩, _, hcells⟩ := h
  obtain rfl := Option.some.inj (gTab.symm.trans hg')
  obtain rfl := Option.some.inj (gTabType.symm.trans ht')
  obtain ⟨xs, n, _, hx, hl, hxl, hf⟩ := DataW.trod_array Tryz.underlying258 hd
  rw [cellsTab] at hl
  have hlen : cs.size = 36 := by simpa using hl
  have hrow : MemPlace.cell 6 0 ∈ ps := by
    rw [hps, hlen]
    refine List.mem_append_left _ (List.mem_append_left _ ?_)
    decide
  obtain ⟨⟨c, t, hc⟩, _⟩ := hcells _ _ hrow
  have hcs : c = cs := by
    simp only [World.var?, gTab, Option.bind_some] at hvar
    rw [hc] at hvar
    simpa using hvar
  subst hcs
  refine ⟨t, c, hc, ?_⟩
  have hxm : xs.map (·.1) = _ := (congrArg (fun z : DataW Unit × List MemPlace => match z.1 with | .agg l => l | _ => []) hx).symm
  have hlist : c.toList = leadsCells := by
    have hch := chunks hl (leadsRows) rfl (by
      intro i hi
      have hfi := hf i hi
      rw [cellsLead] at hfi
      obtain ⟨y, hy⟩ : ∃ y, xs[i]? = some y := ⟨xs[i]'(by omega), List.getElem?_eq_getElem (by omega)⟩
      rw [hy] at hfi
      have hy1 : (xs.map (·.1))[i]? = some y.1 := by rw [List.getElem?_map, hy]; rfl
      rw [hxm] at hy1
      have his : i = 0 ∨ i = 1 ∨ i = 2 ∨ i = 3 ∨ i = 4 ∨ i = 5 ∨ i = 6 ∨ i = 7 ∨ i = 8 := by omega
      rcases his with rfl | rfl | rfl | rfl | rfl | rfl | rfl | rfl | rfl <;> exact congrArg some (row_of hfi _ _ _ _ (Option.some.inj hy1).symm))
    rw [hch]; rfl
  intro j v hj
  rw [← Array.getElem?_toList, hlist]
  exact hj

end Go.Proofs.YtlcfpnegpihicaaGreatDoor

namespace Go.Proofs.YtlcfpnegpihicaaGreatDoor
open Go.RowKit

/-! ## A range over a function whose ways out meet -/

/-- A block in which the rounds' deferred calls would stand, with none. -/
def NoCalls (W : World) (D : Nat) : Prop := W.heap[D]? = some (.deferred (some []))
theorem NoCalls.lt {W : World} {D : Nat} (h : NoCalls W D) : D < W.heap.size := (Array.getElem?_eq_some_iff.1 h).1
theorem NoCalls.alloc {W : World} {D : Nat} (h : NoCalls W D) (o : Obj) : NoCalls (W.alloc o) D := (Below.heap_alloc W o D h.lt).trans h
theorem NoCalls.drewN {W : World} {D : Nat} (h : NoCalls W D) (q : Nat) : NoCalls (W.drewN q) D := h
theorem NoCalls.below {W W' : World} {D B : Nat} (h : NoCalls W D) (hb : Below B W W') (hD : D < B) : NoCalls W' D := (hb.block D hD).trans h
theorem NoCalls.ne {W : World} {D k : Nat} {t : TypeId} {cs : Array Value} (h : NoCalls W D) (hh : Has W k t cs) : D ≠ k := fun e => by
  subst e; unfold NoCalls Has at *; rw [h] at hh; cases hh
theorem NoCalls.set {W : World} {D k i : Nat} {t : TypeId} {cs : Array Value} (h : NoCalls W D) (hh : Has W k t cs) (u : Value) : NoCalls (W.setCell ⟨k, i, none⟩ u) D :=
  (Below.heap_setCell W ⟨k, i, none⟩ u D (h.ne hh)).trans h
theorem NoCalls.put {W : World} {D k : Nat} (h : NoCalls W D) (o : Obj) (hk : D ≠ k) : NoCalls (W.putObj k o) D := (World.putObj_heap_other hk).trans h
theorem NoCalls.from {β : Type} {B D : Nat} (hD : D < B) : OwnFrom B (fun (_ : β) W => NoCalls W D) := fun s X Y row hs hg hr =>
  (hg.block D (NoCalls.lt hs) (fun e => by have := (hr D e.symm).1; omega)).trans hs
theorem Has.put_obj {W : World} {k l : Nat} {t : TypeId} {cs : Array Value} (h : Has W k t cs) (o : Obj) (hl : k ≠ l) : Has (W.putObj l o) k t cs := (World.putObj_heap_other hl).trans h

/-- The way on behind a range: whether all was gone over, or a label left it, the same is known. -/
theorem wpIn_range_meets {α : Type} {F : Fence} {n : Nat} {P : Program} {g : Operand} {ps : Array Tmp} {assign body : Code} {Q : Exit → Act → World → Prop} {a : Act} {w : World}
    (id : Nat) (hro : F.round = none) (h1 : 1 ≤ n) {gf : Nat} {lb : Array Value} (hg : a.eval g = .func (.func gf) #[] lb) (hFg : F.fn gf) (eg : ∀ args w, (callFunc gf args).run P w = .ok (.enter gf args) w)
    {encs : α → Array Value} {Kp : World → World → Prop} {S Sp : List α → Prop} {N : Nat} {w0 : World} (hseq : SeqStopsK F (n - 1) P gf lb encs Kp S Sp N w0)
    (hKt : ∀ {A B C : World}, Kp A B → Kp B C → Kp A C) (hKb : ∀ (W : World) (l : Nat) (o o' : Obj), w.heap.size ≤ l → W.heap[l]? = some o → o.isCells = false → o.isWalk = false → Kp W (W.putObj l o')) (hb0 : Below w0.heap.size w0 w) (hps : ∀ x, (encs x).size = ps.size)
    (I : List α → World → Prop) (Ix : Code → List α → World → Prop) (M : World → Prop) (hI : OwnFrom w.heap.size I) (hIx : ∀ c, OwnFrom w.heap.size (Ix c)) (h0 : I [] w)
    (hall : ∀ xs W, S xs → I xs W → M W) (hleft : ∀ c pre W, Sp pre → Ix c pre W → c = .exit id ∧ M W)
    (a₁ : α → Act)
    (hassign : ∀ (l : Nat) (x : α) (W : World) (K : Act → World → Prop), K (a₁ x) W →
      assign.wpIn (F.inRound l) (n - 1 - 1) P (Exit.then K (fun _ _ _ => False)) { tmps := (ps.zip (encs x)).foldl (fun t (p, v) => t.setIfInBounds p v) a.tmps, defers := [] } W)
    (hbody : ∀ (l : Nat) (pre : List α) (x : α) (W : World), I pre W → pre.length < N → body.wpIn (F.inRound l) (n - 1 - 1) P (ownPostG w.heap.size Kp I Ix (pre ++ [x]) W) (a₁ x) W)
    (hq : ∀ a W, Q .normal a W → Q (.exit id) a W)
    (hrest : ∀ (D : Nat) (W : World), w.heap.size ≤ D → M W → NoCalls W D → Q .normal { a with defers := { target := .collected D, args := #[] } :: a.defers } W) :
    (Code.rangeFunc g ps assign body).wpIn F n P Q a w :=
  wpIn_rangeFunc_ownG hro h1 hg hFg eg hseq (fun h k => hKt h k) hKb hb0 hps I Ix hI hIx h0 a₁ hassign hbody
    (fun D xs W hD hS hI hk => hrest D W hD (hall xs W hS hI) hk)
    (fun D c pre W hD hS hI hk => by
      obtain ⟨rfl, hM⟩ := hleft c pre W hS hI
      exact wpIn_exit (hq _ _ (hrest D W hD hM hk)))
end Go.Proofs.YtlcfpnegpihicaaGreatDoor
