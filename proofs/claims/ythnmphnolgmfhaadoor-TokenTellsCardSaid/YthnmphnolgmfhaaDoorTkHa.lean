import Derived.Test.YthnmphnolgmfhaaDoorTkA
import Derived.Lib.SplitLaws
namespace Go.Proofs.YthnmphnolgmfhaaDoor
open Go.RowKit
/-! ## What stands between bytes: mathematics -/
theorem exE (l : List UInt8) (a b : Nat) : (⟨l.toArray⟩ : ByteArray).extract a b = ⟨((l.drop a).take (b - a)).toArray⟩ := by
  have h : ((⟨l.toArray⟩ : ByteArray).extract a b).data = ((l.drop a).take (b - a)).toArray := by
    apply Array.toList_inj.1
    rw [ByteArray.data_extract, Array.toList_extract, List.extract_eq_take_drop]
  generalize (⟨l.toArray⟩ : ByteArray).extract a b = x at h ⊢
  cases x
  exact congrArg ByteArray.mk h
/-- What stands between bytes of a kind. -/
def partsG (c : UInt8) : List UInt8 → List (List UInt8)
  | [] => [[]]
  | b :: r => if b = c then [] :: partsG c r else match partsG c r with
    | [] => [[b]]
    | p :: ps => (b :: p) :: ps
theorem partsG_ne (c : UInt8) (d : List UInt8) : partsG c d ≠ [] := by
  cases d with
  | nil => simp [partsG]
  | cons b r =>
    unfold partsG
    split
    · simp
    · split <;> simp
theorem partsG_no {c : UInt8} : ∀ {l : List UInt8}, c ∉ l → partsG c l = [l]
  | [], _ => rfl
  | b :: r, h => by
    rw [List.mem_cons, not_or] at h
    unfold partsG
    rw [if_neg (fun e => h.1 e.symm), partsG_no h.2]
theorem partsG_at {c : UInt8} : ∀ {a r : List UInt8}, c ∉ a → partsG c (a ++ c :: r) = a :: partsG c r
  | [], r, _ => by rw [List.nil_append]; conv => lhs; unfold partsG; rw [if_pos rfl]
  | b :: a, r, h => by
    rw [List.mem_cons, not_or] at h
    rw [List.cons_append]
    conv => lhs; unfold partsG
    rw [if_neg (fun e => h.1 e.symm), partsG_at h.2]
theorem partsG_many (c : UInt8) : ∀ d : List UInt8, (partsG c d).length ≤ d.length + 1
  | [] => by simp [partsG]
  | b :: r => by
    have ih := partsG_many c r
    unfold partsG
    split
    · simp; omega
    · cases hp : partsG c r with
      | nil => exact absurd hp (partsG_ne c r)
      | cons q ps => rw [hp] at ih; simp at ih ⊢; omega
theorem partsG_comma : ∀ l, partsG 44 l = commasL l
  | [] => rfl
  | b :: r => by
    unfold partsG commasL
    rw [partsG_comma r]
    split
    · rfl
    · cases commasL r <;> rfl
/-- Where the parts stand while a text is gone over: what is told, where the next one begins. -/
structure PartS (c : UInt8) (l : List UInt8) (done : List (List UInt8)) (fr k : Nat) : Prop where
  le : fr ≤ k
  no : c ∉ (l.drop fr).take (k - fr)
  all : partsG c l = done ++ partsG c (l.drop fr)
theorem PartS.start (c : UInt8) (l : List UInt8) : PartS c l [] 0 0 := ⟨Nat.le_refl _, by simp, by simp⟩
theorem take_snoc {l : List UInt8} {fr k : Nat} (h : fr ≤ k) (hk : k < l.length) : (l.drop fr).take (k + 1 - fr) = (l.drop fr).take (k - fr) ++ [l[k]] := by
  have e : k + 1 - fr = (k - fr) + 1 := by omega
  rw [e, List.take_succ_eq_append_getElem (by rw [List.length_drop]; omega)]
  congr 2
  rw [List.getElem_drop]
  congr 1
  omega
theorem PartS.next {c : UInt8} {l : List UInt8} {done : List (List UInt8)} {fr k : Nat} (h : PartS c l done fr k) (hk : k < l.length) (hc : l[k] ≠ c) : PartS c l done fr (k + 1) := by
  refine ⟨by have := h.le; omega, ?_, h.all⟩
  rw [take_snoc h.le hk, List.mem_append, not_or]
  exact ⟨h.no, by simp; exact fun e => hc e.symm⟩
theorem PartS.cut {c : UInt8} {l : List UInt8} {done : List (List UInt8)} {fr k : Nat} (h : PartS c l done fr k) (hk : k < l.length) (hc : l[k] = c) : PartS c l (done ++ [(l.drop fr).take (k - fr)]) (k + 1) (k + 1) := by
  refine ⟨Nat.le_refl _, by simp, ?_⟩
  have hle := h.le
  have e : l.drop fr = (l.drop fr).take (k - fr) ++ c :: l.drop (k + 1) := by
    conv => lhs; rw [← List.take_append_drop (k - fr) (l.drop fr)]
    congr 1
    rw [List.drop_drop, show fr + (k - fr) = k by omega, List.drop_eq_getElem_cons hk, hc]
  rw [h.all]
  conv => lhs; rw [e, partsG_at h.no]
  simp
theorem PartS.end {c : UInt8} {l : List UInt8} {done : List (List UInt8)} {fr : Nat} (h : PartS c l done fr l.length) : partsG c l = done ++ [l.drop fr] := by
  have hn := h.no
  rw [List.take_of_length_le (by simp)] at hn
  rw [h.all, partsG_no hn]
theorem PartS.few {c : UInt8} {l : List UInt8} {done : List (List UInt8)} {fr k : Nat} (h : PartS c l done fr k) : done.length ≤ l.length := by
  have h1 := partsG_many c l
  have h2 := List.length_pos_iff.2 (partsG_ne c (l.drop fr))
  rw [h.all, List.length_append] at h1
  omega
/-- How the parts stand at a byte, or behind the text. -/
def PartQ (c : UInt8) (l : List UInt8) (done : List (List UInt8)) (fr k : Nat) : Prop := (k ≤ l.length ∧ PartS c l done fr k) ∨ (k = l.length + 1 ∧ done = partsG c l)
theorem PartQ.few {c : UInt8} {l : List UInt8} {done : List (List UInt8)} {fr k : Nat} (h : PartQ c l done fr k) : done.length ≤ l.length + 1 := by
  rcases h with ⟨_, h⟩ | ⟨_, rfl⟩
  · have := h.few; omega
  · exact partsG_many c l
theorem parts_index : ∀ s : List UInt8, (Lib.index s [44] = -1 → commasL s = [s]) ∧ (∀ i : Nat, Lib.index s [44] = i → commasL s = s.take i :: commasL (s.drop (i + 1)))
  | [] => ⟨fun _ => rfl, fun i h => by simp [Lib.index] at h⟩
  | b :: r => by
    obtain ⟨ih1, ih2⟩ := parts_index r
    have hge := Lib.index_ge r [44]
    by_cases hb : b = 44
    · subst hb
      have h0 : Lib.index (44 :: r) [44] = 0 := by simp [Lib.index, List.isPrefixOf]
      refine ⟨fun h => by omega, fun i h => ?_⟩
      obtain rfl : i = 0 := by omega
      simp [commasL]
    · have hp : ([44] : List UInt8).isPrefixOf (b :: r) = false := by simp [List.isPrefixOf]; exact fun e => hb e.symm
      have hi : Lib.index (b :: r) [44] = if Lib.index r [44] == -1 then -1 else Lib.index r [44] + 1 := by
        conv => lhs; unfold Lib.index
        rw [hp]; rfl
      rw [hi]
      by_cases hm : Lib.index r [44] = -1
      · rw [if_pos (beq_iff_eq.2 hm)]
        refine ⟨fun _ => ?_, fun i h => by omega⟩
        unfold commasL
        rw [if_neg hb, ih1 hm]
      · rw [if_neg (fun e => hm (beq_iff_eq.1 e))]
        refine ⟨fun h => by omega, fun i h => ?_⟩
        obtain ⟨j, rfl⟩ : ∃ j, i = j + 1 := ⟨i - 1, by omega⟩
        conv => lhs; unfold commasL
        rw [if_neg hb, ih2 j (by omega)]
        simp
theorem parts_split (n : Nat) : ∀ s : List UInt8, s.length ≤ n → Lib.splitK [44] 0 (Lib.count s [44]) s = commasL s ∧ Lib.count s [44] + 1 = (commasL s).length := by
  induction n with
  | zero =>
    intro s hs
    obtain rfl : s = [] := List.length_eq_zero_iff.1 (by omega)
    exact ⟨rfl, rfl⟩
  | succ n ih =>
    intro s hs
    obtain ⟨h1, h2⟩ := parts_index s
    by_cases hm : Lib.index s [44] = -1
    · rw [Lib.count_miss hm, h1 hm]
      exact ⟨rfl, rfl⟩
    · have hge := Lib.index_ge s [44]
      obtain ⟨i, hi⟩ : ∃ i : Nat, Lib.index s [44] = i := ⟨(Lib.index s [44]).toNat, by omega⟩
      have hr := Lib.index_room s [44] (by omega)
      obtain ⟨a, b⟩ := ih (s.drop (i + 1)) (by rw [List.length_drop]; simp at hr; omega)
      rw [Lib.count_hit (by simp) hi, h2 i hi]
      constructor
      · rw [show 1 + Lib.count (s.drop (i + ([44] : List UInt8).length)) [44] = Lib.count (s.drop (i + 1)) [44] + 1 from by simp; omega]
        unfold Lib.splitK
        rw [if_neg (fun e => hm (beq_iff_eq.1 e)), hi]
        simp only [Int.toNat_natCast, Nat.add_zero]
        exact congrArg _ a
      · show 1 + Lib.count (s.drop (i + 1)) [44] + 1 = (commasL (s.drop (i + 1))).length + 1
        omega
theorem commasL_many (s : List UInt8) : (commasL s).length ≤ s.length + 1 := by rw [← partsG_comma]; exact partsG_many 44 s
/-- Of parts, what is an item. -/
def siftL (ls : List (List UInt8)) : List (List UInt8) := ls.filter (fun t => !t.isEmpty)
def itemsOf (ls : List (List UInt8)) : List (List UInt8) := siftL (ls.map trimL)
theorem itemsL_of (s : List UInt8) : itemsL s = itemsOf (partsG 44 s) := by rw [partsG_comma]; rfl
theorem siftL_len (ls : List (List UInt8)) : (siftL ls).length ≤ ls.length := List.length_filter_le _ _
theorem itemsOf_len (ls : List (List UInt8)) : (itemsOf ls).length ≤ ls.length := by unfold itemsOf; have := siftL_len (ls.map trimL); simpa using this
theorem siftL_snoc (ls : List (List UInt8)) (t : List UInt8) : (t = [] → siftL (ls ++ [t]) = siftL ls) ∧ (t ≠ [] → siftL (ls ++ [t]) = siftL ls ++ [t]) := by
  unfold siftL
  constructor
  · rintro rfl; simp
  · intro h
    have : t.isEmpty = false := by cases t with
      | nil => exact absurd rfl h
      | cons b r => rfl
    simp [List.filter_append, List.filter, this]
theorem itemsOf_snoc (ls : List (List UInt8)) (t : List UInt8) : (trimL t = [] → itemsOf (ls ++ [t]) = itemsOf ls) ∧ (trimL t ≠ [] → itemsOf (ls ++ [t]) = itemsOf ls ++ [trimL t]) := by
  unfold itemsOf
  rw [List.map_append, List.map_singleton]
  exact siftL_snoc _ _
theorem commasL_len : ∀ (s p : List UInt8), p ∈ commasL s → p.length ≤ s.length
  | [], p, hp => by simp [commasL] at hp; subst hp; simp
  | c :: r, p, hp => by
    unfold commasL at hp
    split at hp
    · rcases List.mem_cons.1 hp with rfl | h
      · simp
      · have := commasL_len r p h; simp; omega
    · split at hp
      · simp at hp; subst hp; simp
      · rename_i u us hu
        rcases List.mem_cons.1 hp with rfl | h
        · have := commasL_len r u (by rw [hu]; exact List.mem_cons_self); simp; omega
        · have := commasL_len r p (by rw [hu]; exact List.mem_cons_of_mem _ h); simp; omega
end Go.Proofs.YthnmphnolgmfhaaDoor
