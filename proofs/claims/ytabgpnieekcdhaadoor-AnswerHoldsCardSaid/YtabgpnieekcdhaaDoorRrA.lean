import Derived.Test.YtabgpnieekcdhaaDoorTkA
namespace Go.Proofs.YtabgpnieekcdhaaDoor

/-! ## Heads: mathematics (13p's RrA without targets) -/
abbrev PairL := List UInt8 × List UInt8
namespace Rr
def lengL : List UInt8 := [99, 111, 110, 116, 101, 110, 116, 45, 108, 101, 110, 103, 116, 104]
def closeL : List UInt8 := [99, 108, 111, 115, 101]
def beginsB (s : List UInt8) : Bool := decide (s ≠ []) && !(s.head? == some 32)
def bytesB (s : List UInt8) : Bool := valueL s || valueL (trimL s)
def fieldB (q : PairL) : Bool := (tokenL q.1 && lowerL q.1 == q.1) && valueL q.2
/-- May a head be? -/
def headB (f : List UInt8) (l : List PairL) : Bool := (beginsB f && bytesB f) && l.all fieldB
def isName (name : List UInt8) (q : PairL) : Bool := lowerL q.1 == lowerL name
/-- The Values of the fields of a name. -/
def vals (name : List UInt8) (l : List PairL) : List (List UInt8) := (l.filter (isName name)).map Prod.snd
def joinL : List (List UInt8) → List UInt8
  | [] => []
  | [x] => x
  | x :: y :: r => x ++ [44, 32] ++ joinL (y :: r)
theorem valB_of {b : UInt8} (h : 32 ≤ b.toNat ∧ b.toNat ≤ 126) : valB b = true := by
  have h1 : (32 : UInt8) ≤ b := UInt8.le_iff_toNat_le.2 h.1
  have h2 : b ≤ (126 : UInt8) := UInt8.le_iff_toNat_le.2 h.2
  simp [valB, h1, h2]
theorem valueL_mid {a m z : List UInt8} {x y : UInt8} (ha : a.all valB = true) (hm : m.all valB = true) (hz : z.all valB = true) (hx : blkB x = false) (hy : blkB y = false) (hvx : valB x = true) (hvy : valB y = true) : valueL (x :: (a ++ m ++ z ++ [y])) = true := by
  unfold valueL
  have h1 : trimL (x :: (a ++ m ++ z ++ [y])) = x :: (a ++ m ++ z ++ [y]) := by
    unfold trimL
    rw [dropL_no _ hx, ← List.cons_append, dropR_no _ hy]
  rw [h1]
  simp [ha, hm, hz, hvx, hvy, List.all_append] <;> simp_all
end Rr
end Go.Proofs.YtabgpnieekcdhaaDoor
