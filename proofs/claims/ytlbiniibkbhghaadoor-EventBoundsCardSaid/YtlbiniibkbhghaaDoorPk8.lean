import Derived.Test.YtlbiniibkbhghaaDoorPk6
import Derived.Test.YtlbiniibkbhghaaDoorPk7
import Derived.Lib.SplitLaws
import Derived.Shelf.Small.Strs
import Derived.Shelf.Strings.Search1
import Derived.Shelf.Strings.Split
import Derived.Test.YtlbiniibkbhghaaDoorProg
import Derived.WalkLawsBesides
import Derived.Test.YtlbiniibkbhghaaDoorPk1
import Derived.Deep.RegionHeld3
import Derived.StillTailTactics
namespace Go.Proofs.YtlbiniibkbhghaaDoor
open Go.RowKit

/-! ## The mathematics of events: an event is (id, type, data) -/
abbrev Ev := List UInt8 × List UInt8 × List UInt8
abbrev FdT := Int × List UInt8 × List UInt8
/-- What stands between LFs. -/
def partsL : List UInt8 → List (List UInt8)
  | [] => [[]]
  | b :: r => if b = 10 then [] :: partsL r else match partsL r with
    | [] => [[b]]
    | p :: ps => (b :: p) :: ps
theorem partsL_ne (d : List UInt8) : partsL d ≠ [] := by
  cases d with
  | nil => simp [partsL]
  | cons b r =>
    unfold partsL
    split
    · simp
    · split <;> simp
def joinL : List (List UInt8) → List UInt8
  | [] => []
  | [p] => p
  | p :: q :: r => p ++ 10 :: joinL (q :: r)
theorem joinL_cons (p : List UInt8) (l : List (List UInt8)) (h : l ≠ []) : joinL (p :: l) = p ++ 10 :: joinL l := by
  cases l with
  | nil => exact absurd rfl h
  | cons q r => rfl
theorem joinL_parts : ∀ d : List UInt8, joinL (partsL d) = d
  | [] => rfl
  | b :: r => by
    have ih := joinL_parts r
    unfold partsL
    split
    · rename_i hb
      rw [joinL_cons _ _ (partsL_ne r), ih, hb]; rfl
    · cases hp : partsL r with
      | nil => exact absurd hp (partsL_ne r)
      | cons p ps =>
        rw [hp] at ih
        simp only
        cases ps with
        | nil => simpa [joinL] using ih
        | cons q t => rw [joinL_cons _ _ (by simp)] at ih ⊢; rw [← ih]; rfl
theorem partsL_no : ∀ d : List UInt8, ∀ p ∈ partsL d, 10 ∉ p
  | [], p, h => by simp [partsL] at h; subst h; simp
  | b :: r, p, h => by
    have ih := partsL_no r
    unfold partsL at h
    split at h
    · rcases List.mem_cons.1 h with h | h
      · subst h; simp
      · exact ih p h
    · rename_i hb
      cases hp : partsL r with
      | nil => exact absurd hp (partsL_ne r)
      | cons q ps =>
        rw [hp] at h ih
        simp only [List.mem_cons] at h
        rcases h with h | h
        · subst h
          simp only [List.mem_cons, not_or]
          exact ⟨fun e => hb e.symm, ih q (by simp)⟩
        · exact ih p (by simp [h])
theorem partsL_len : ∀ (d p : List UInt8), p ∈ partsL d → p.length ≤ d.length
  | [], p, h => by simp [partsL] at h; subst h; simp
  | b :: r, p, h => by
    have ih := partsL_len r
    unfold partsL at h
    split at h
    · rcases List.mem_cons.1 h with h | h
      · subst h; simp
      · have := ih p h; simp; omega
    · cases hp : partsL r with
      | nil => exact absurd hp (partsL_ne r)
      | cons q ps =>
        rw [hp] at h ih
        simp only [List.mem_cons] at h
        rcases h with h | h
        · subst h; have := ih q (by simp); simp; omega
        · have := ih p (by simp [h]); simp; omega
theorem partsL_many : ∀ d : List UInt8, (partsL d).length ≤ d.length + 1
  | [] => by simp [partsL]
  | b :: r => by
    have ih := partsL_many r
    unfold partsL
    split
    · simp; omega
    · cases hp : partsL r with
      | nil => exact absurd hp (partsL_ne r)
      | cons q ps => rw [hp] at ih; simp at ih ⊢; omega
def idN : List UInt8 := [105, 100]
def eventN : List UInt8 := [101, 118, 101, 110, 116]
def dataN : List UInt8 := [100, 97, 116, 97]
def oneF (k : Int) (n t : List UInt8) : List FdT := if t = [] then [] else [(k, n, t)]
def dataF (d : List UInt8) : List FdT := (partsL d).map fun p => (3, dataN, p)
/-- What an event's lines say, but for the last one. -/
def fieldsE (e : Ev) : List FdT := oneF 5 idN e.1 ++ (oneF 4 eventN e.2.1 ++ dataF e.2.2)
def linesE (e : Ev) : List (List UInt8) := (fieldsE e).map lineF ++ [[]]
def endsL (l : List (List UInt8)) : List UInt8 := l.flatMap (· ++ [10])
def bytesE (e : Ev) : List UInt8 := endsL (linesE e)
/-- Is a text sound, without the first n of CR, LF and the byte 0? -/
def barL : List UInt8 := [13, 10, 0]
def cleanB (t : List UInt8) (n : Nat) : Bool := soundB t && (barL.take n).all fun b => !t.contains b
def fitsE (e : Ev) : Bool := decide (e.1.length + e.2.1.length + e.2.2.length ≤ 65536)
def rightE (e : Ev) : Bool := fitsE e && (cleanB e.1 3 && (cleanB e.2.1 2 && cleanB e.2.2 1))
theorem cleanB_no {t : List UInt8} {n : Nat} (h : cleanB t n = true) (b : UInt8) (hb : b ∈ barL.take n) : b ∉ t := by
  unfold cleanB at h
  simp only [Bool.and_eq_true, List.all_eq_true] at h
  have := h.2 b hb
  simpa using this
theorem rightE_of {e : Ev} (h : rightE e = true) : fitsE e = true ∧ cleanB e.1 3 = true ∧ cleanB e.2.1 2 = true ∧ cleanB e.2.2 1 = true := by
  unfold rightE at h
  simp only [Bool.and_eq_true] at h
  exact ⟨h.1, h.2.1, h.2.2.1, h.2.2.2⟩
theorem fields_say (e : Ev) : ∀ f ∈ fieldsE e, sayF f = true := by
  intro f hf
  unfold fieldsE at hf
  rcases List.mem_append.1 hf with h | h
  · unfold oneF at h
    split at h
    · simp at h
    · obtain rfl := List.mem_singleton.1 h
      rfl
  · rcases List.mem_append.1 h with h | h
    · unfold oneF at h
      split at h
      · simp at h
      · obtain rfl := List.mem_singleton.1 h
        rfl
    · unfold dataF at h
      obtain ⟨p, _, rfl⟩ := List.mem_map.1 h
      rfl
theorem fields_back (e : Ev) : (linesE e).map fieldF = fieldsE e ++ [(1, [], [])] := by
  unfold linesE
  rw [List.map_append, List.map_map]
  congr 1
  conv => rhs; rw [← List.map_id (fieldsE e)]
  exact List.map_congr_left fun f hf => fieldF_lineF f (fields_say e f hf)
theorem betw_no (f : FdT) : 10 ∉ betw f := by
  unfold betw
  (repeat' split) <;> simp
theorem lines_no {e : Ev} (h1 : 10 ∉ e.1) (h2 : 10 ∉ e.2.1) : ∀ l ∈ linesE e, 10 ∉ l := by
  intro l hl
  unfold linesE at hl
  rcases List.mem_append.1 hl with hl | hl
  · obtain ⟨f, hf, rfl⟩ := List.mem_map.1 hl
    have key : 10 ∉ f.2.1 ∧ 10 ∉ f.2.2 := by
      unfold fieldsE at hf
      rcases List.mem_append.1 hf with h | h
      · unfold oneF at h
        split at h
        · simp at h
        · obtain rfl := List.mem_singleton.1 h
          exact ⟨(show 10 ∉ idN by decide), h1⟩
      · rcases List.mem_append.1 h with h | h
        · unfold oneF at h
          split at h
          · simp at h
          · obtain rfl := List.mem_singleton.1 h
            exact ⟨(show 10 ∉ eventN by decide), h2⟩
        · unfold dataF at h
          obtain ⟨p, hp, rfl⟩ := List.mem_map.1 h
          exact ⟨(show 10 ∉ dataN by decide), partsL_no _ p hp⟩
    unfold lineF
    simp only [List.mem_append, not_or]
    exact ⟨⟨key.1, betw_no f⟩, key.2⟩
  · obtain rfl := List.mem_singleton.1 hl
    simp
theorem ends_inj : ∀ a b : List (List UInt8), (∀ l ∈ a, 10 ∉ l) → (∀ l ∈ b, 10 ∉ l) → endsL a = endsL b → a = b
  | [], [], _, _, _ => rfl
  | [], y :: b, _, _, h => by simp [endsL] at h
  | x :: a, [], _, _, h => by simp [endsL] at h
  | x :: a, y :: b, ha, hb, h => by
    have hx := ha x (by simp)
    have hy := hb y (by simp)
    have h' : x ++ 10 :: endsL a = y ++ 10 :: endsL b := by simpa [endsL] using h
    have key : ∀ (x y r t : List UInt8), 10 ∉ x → 10 ∉ y → x ++ 10 :: r = y ++ 10 :: t → x = y ∧ r = t := by
      intro x
      induction x with
      | nil =>
        intro y r t _ hy e
        cases y with
        | nil => exact ⟨rfl, by simpa using e⟩
        | cons c y => simp at e; exact absurd e.1.symm (by simp at hy; exact fun e' => hy.1 e'.symm)
      | cons c x ih =>
        intro y r t hx hy e
        cases y with
        | nil => simp at e; exact absurd e.1 (by simp at hx; exact fun e' => hx.1 e'.symm)
        | cons d y =>
          simp at e hx hy
          obtain ⟨h1, h2⟩ := ih y r t hx.2 hy.2 e.2
          exact ⟨by rw [e.1, h1], h2⟩
    obtain ⟨h1, h2⟩ := key x y _ _ hx hy h'
    rw [h1, ends_inj a b (fun l hl => ha l (by simp [hl])) (fun l hl => hb l (by simp [hl])) h2]

/-! ## What the law makes of lines -/
abbrev EhS := List UInt8 × List UInt8 × List UInt8 × Nat × Nat
def ehStep (s : EhS) (f : FdT) : EhS :=
  if f.1 = 5 then (f.2.2, s.2) else if f.1 = 4 then (s.1, f.2.2, s.2.2)
  else if f.1 = 3 then (s.1, s.2.1, (if 0 < s.2.2.2.1 then s.2.2.1 ++ [10] else s.2.2.1) ++ f.2.2, s.2.2.2.1 + 1, s.2.2.2.2)
  else (s.1, s.2.1, s.2.2.1, s.2.2.2.1, s.2.2.2.2 + 1)
def ehOf (l : List FdT) : EhS := l.foldl ehStep ([], [], [], 0, 0)
theorem ehOf_snoc (l : List FdT) (f : FdT) : ehOf (l ++ [f]) = ehStep (ehOf l) f := by unfold ehOf; rw [List.foldl_append]; rfl
theorem eh_data : ∀ (ps : List (List UInt8)) (i t d : List UInt8) (n k : Nat), 0 < n → (ps.map fun p => ((3 : Int), dataN, p)).foldl ehStep (i, t, d, n, k) = (i, t, d ++ ps.flatMap (10 :: ·), n + ps.length, k)
  | [], i, t, d, n, k, _ => by simp
  | p :: ps, i, t, d, n, k, h => by
    rw [List.map_cons, List.foldl_cons]
    have : ehStep (i, t, d, n, k) (3, dataN, p) = (i, t, d ++ 10 :: p, n + 1, k) := by
      unfold ehStep
      simp [h]
    rw [this, eh_data ps i t _ (n + 1) k (by omega)]
    simp; omega
theorem joinL_flat (p : List UInt8) : ∀ ps : List (List UInt8), joinL (p :: ps) = p ++ ps.flatMap (10 :: ·)
  | [] => by simp [joinL]
  | q :: r => by
    rw [joinL_cons _ _ (by simp), joinL_flat q r]
    simp
theorem eh_all (e : Ev) : ehOf (fieldsE e ++ [(1, [], [])]) = (e.1, e.2.1, e.2.2, (partsL e.2.2).length, 1) := by
  obtain ⟨i, t, d⟩ := e
  rw [ehOf_snoc]
  have h1 : ehOf (fieldsE (i, t, d)) = (i, t, d, (partsL d).length, 0) := by
    unfold ehOf fieldsE
    rw [List.foldl_append, List.foldl_append]
    have hi : (oneF 5 idN i).foldl ehStep ([], [], [], 0, 0) = (i, [], [], 0, 0) := by
      unfold oneF
      split
      · rename_i h; subst h; rfl
      · rfl
    have ht : (oneF 4 eventN t).foldl ehStep (i, [], [], 0, 0) = (i, t, [], 0, 0) := by
      unfold oneF
      split
      · rename_i h; subst h; rfl
      · rfl
    simp only
    rw [hi, ht]
    unfold dataF
    have hj := joinL_parts d
    cases hp : partsL d with
    | nil => exact absurd hp (partsL_ne d)
    | cons p ps =>
      rw [hp, joinL_flat] at hj
      rw [List.map_cons, List.foldl_cons]
      have : ehStep (i, t, [], 0, 0) (3, dataN, p) = (i, t, p, 1, 0) := by
        unfold ehStep
        simp
      rw [this, eh_data ps i t p 1 0 (by omega), hj]
      simp; omega
  rw [h1]
  rfl
/-- No two events have the same bytes. -/
theorem bytes_inj {x y : Ev} (hx : rightE x = true) (hy : rightE y = true) : (bytesE x = bytesE y) ↔ (x = y) := by
  constructor
  · intro h
    obtain ⟨_, a1, a2, _⟩ := rightE_of hx
    obtain ⟨_, b1, b2, _⟩ := rightE_of hy
    have hl := ends_inj _ _ (lines_no (cleanB_no a1 10 (by decide)) (cleanB_no a2 10 (by decide))) (lines_no (cleanB_no b1 10 (by decide)) (cleanB_no b2 10 (by decide))) h
    have hf := congrArg (List.map fieldF) hl
    rw [fields_back, fields_back] at hf
    have he := congrArg ehOf hf
    rw [eh_all, eh_all] at he
    simp only [Prod.mk.injEq] at he
    exact Prod.ext he.1 (Prod.ext he.2.1 he.2.2.1)
  · intro h; rw [h]
end Go.Proofs.YtlbiniibkbhghaaDoor

/- The contracts of the library that these proofs lean on, laid at this program by the guide's own command, in plain words. -/
namespace Go.Proofs
open Go.Shelf
def Tryd.lays137_ren : Go.Shelf.Ren := ⟨fun | 137 => 161 | 217 => 175 | 266 => 181 | n => n, fun | 9 => 9 | 5 => 5 | 3 => 3 | n => n, fun | n => n⟩
theorem Tryd.lays137 : Go.Proofs.Lays.n137 Tryd.prog Tryd.lays137_ren := {
  mixed := by kernel_rfl
  f137 := Tryd.func161.trans (congrArg some (by kernel_rfl))
  f217 := Tryd.func175.trans (congrArg some (by kernel_rfl))
  f266 := Tryd.func181.trans (congrArg some (by kernel_rfl))
  t3 := Tryd.underlying3
  a3 := Tryd.isAgg3
  z3 := Tryd.sizeOf3
  v3 := Tryd.zeroValue3
  t5 := Tryd.underlying5
  a5 := Tryd.isAgg5
  z5 := Tryd.sizeOf5
  v5 := Tryd.zeroValue5
  t9 := Tryd.underlying9
  a9 := Tryd.isAgg9
  z9 := Tryd.sizeOf9
  v9 := Tryd.zeroValue9 }
open Go.RowKit in
theorem Tryd.strings_IndexByte (s : ByteArray) (c : Int) (w : World) :
    Calls Tryd.prog 161 #[.string s, .int .u8 c] w fun e w' => e = .returned (.int .i64 (Lib.indexByte s.data.toList c.toNat.toUInt8)) ∧ w' = w := Any.strings_IndexByte Tryd.lays137 s c w
def Tryd.lays217_ren : Go.Shelf.Ren := ⟨fun | 217 => 175 | 266 => 181 | n => n, fun | 9 => 9 | 5 => 5 | 3 => 3 | n => n, fun | n => n⟩
theorem Tryd.lays217 : Go.Proofs.Lays.n217 Tryd.prog Tryd.lays217_ren := {
  mixed := by kernel_rfl
  f217 := Tryd.func175.trans (congrArg some (by kernel_rfl))
  f266 := Tryd.func181.trans (congrArg some (by kernel_rfl))
  t3 := Tryd.underlying3
  a3 := Tryd.isAgg3
  z3 := Tryd.sizeOf3
  v3 := Tryd.zeroValue3
  t5 := Tryd.underlying5
  a5 := Tryd.isAgg5
  z5 := Tryd.sizeOf5
  v5 := Tryd.zeroValue5
  t9 := Tryd.underlying9
  a9 := Tryd.isAgg9
  z9 := Tryd.sizeOf9
  v9 := Tryd.zeroValue9 }
open Go.RowKit Go.Lib in
theorem Tryd.stringslite_IndexByte (s : ByteArray) (c : Int) (w : World) :
    Calls Tryd.prog 175 #[.string s, .int .u8 c] w fun e w' => e = .returned (.int .i64 (Lib.indexByte s.data.toList c.toNat.toUInt8)) ∧ w' = w := Any.stringslite_IndexByte Tryd.lays217 s c w
def Tryd.lays146_ren : Go.Shelf.Ren := ⟨fun | 146 => 177 | 221 => 182 | 268 => 184 | 138 => 185 | 143 => 155 | 195 => 186 | 197 => 99 | 218 => 187 | 219 => 174 | 260 => 142 | 217 => 175 | 225 => 178 | 224 => 179 | 267 => 180 | 266 => 181 | 314 => 183 | n => n, fun | 9 => 9 | 31 => 109 | 3 => 3 | 4 => 4 | 0 => 0 | 105 => 135 | 21 => 21 | 5 => 5 | 46 => 64 | 119 => 214 | 139 => 217 | 138 => 216 | 146 => 132 | 51 => 131 | n => n, fun | 1 => 4 | 3 => 5 | 4 => 6 | n => n⟩
theorem Tryd.lays146 : Go.Proofs.Lays.n146 Tryd.prog Tryd.lays146_ren := {
  mixed := by kernel_rfl
  f138 := Tryd.func185.trans (congrArg some (by kernel_rfl))
  f143 := Tryd.func155.trans (congrArg some (by kernel_rfl))
  f146 := Tryd.func177.trans (congrArg some (by kernel_rfl))
  f195 := Tryd.func186.trans (congrArg some (by kernel_rfl))
  f197 := Tryd.func99.trans (congrArg some (by kernel_rfl))
  f217 := Tryd.func175.trans (congrArg some (by kernel_rfl))
  f218 := Tryd.func187.trans (congrArg some (by kernel_rfl))
  f219 := Tryd.func174.trans (congrArg some (by kernel_rfl))
  f221 := Tryd.func182.trans (congrArg some (by kernel_rfl))
  f224 := Tryd.func179.trans (congrArg some (by kernel_rfl))
  f225 := Tryd.func178.trans (congrArg some (by kernel_rfl))
  f260 := Tryd.func142.trans (congrArg some (by kernel_rfl))
  f266 := Tryd.func181.trans (congrArg some (by kernel_rfl))
  f267 := Tryd.func180.trans (congrArg some (by kernel_rfl))
  f268 := Tryd.func184.trans (congrArg some (by kernel_rfl))
  f314 := Tryd.func183.trans (congrArg some (by kernel_rfl))
  t0 := Tryd.underlying0
  a0 := Tryd.isAgg0
  z0 := Tryd.sizeOf0
  v0 := Tryd.zeroValue0
  t3 := Tryd.underlying3
  a3 := Tryd.isAgg3
  z3 := Tryd.sizeOf3
  v3 := Tryd.zeroValue3
  t4 := Tryd.underlying4
  a4 := Tryd.isAgg4
  z4 := Tryd.sizeOf4
  v4 := Tryd.zeroValue4
  t5 := Tryd.underlying5
  a5 := Tryd.isAgg5
  z5 := Tryd.sizeOf5
  v5 := Tryd.zeroValue5
  t9 := Tryd.underlying9
  a9 := Tryd.isAgg9
  z9 := Tryd.sizeOf9
  v9 := Tryd.zeroValue9
  t21 := Tryd.underlying21
  a21 := Tryd.isAgg21
  z21 := Tryd.sizeOf21
  v21 := Tryd.zeroValue21
  t31 := Tryd.underlying109
  a31 := Tryd.isAgg109
  z31 := Tryd.sizeOf109
  v31 := Tryd.zeroValue109
  t46 := Tryd.underlying64
  a46 := Tryd.isAgg64
  z46 := Tryd.sizeOf64
  v46 := Tryd.zeroValue64
  t51 := Tryd.underlying131
  a51 := Tryd.isAgg131
  z51 := Tryd.sizeOf131
  v51 := Tryd.zeroValue131
  t105 := Tryd.underlying135
  a105 := Tryd.isAgg135
  z105 := Tryd.sizeOf135
  v105 := Tryd.zeroValue135
  t119 := Tryd.underlying214
  a119 := Tryd.isAgg214
  z119 := Tryd.sizeOf214
  t138 := Tryd.underlying216
  a138 := Tryd.isAgg216
  z138 := Tryd.sizeOf216
  v138 := Tryd.zeroValue216
  t139 := Tryd.underlying217
  a139 := Tryd.isAgg217
  z139 := Tryd.sizeOf217
  v139 := Tryd.zeroValue217
  t146 := Tryd.underlying132
  a146 := Tryd.isAgg132
  z146 := Tryd.sizeOf132
  v146 := Tryd.zeroValue132
  g1 := by kernel_rfl
  g3 := by kernel_rfl
  g4 := by kernel_rfl }
open Go.RowKit Go.Lib in
theorem Tryd.strings_Split (s sep : ByteArray) (m : Int) (w : World) (hs : s.size < 4294967281) (hm : w.cell? ⟨4, 0, none⟩ = some (.int .i64 m)) (h1 : 1 ≤ sep.size) :
    Calls Tryd.prog 177 #[.string s, .string sep] w fun e w' =>
      e = .returned (.slice (some ⟨w.heap.size, 0, none⟩) (Lib.countB s sep + 1) (Lib.countB s sep + 1)) ∧ w' = w.alloc (.cells ((Lib.splitB sep 0 (Lib.countB s sep) s).map Value.string).toArray 9) := Any.strings_Split Tryd.lays146 (by kernel_rfl) s sep m w hs hm h1
end Go.Proofs

namespace Go.Proofs.YtlbiniibkbhghaaDoor
open Go.RowKit Go.Shelf
attribute [local go_sem] Oper.semAt_some

/-! ## Parts, as the library cuts them -/
theorem parts_index : ∀ s : List UInt8, (Lib.index s [10] = -1 → partsL s = [s]) ∧ (∀ i : Nat, Lib.index s [10] = i → partsL s = s.take i :: partsL (s.drop (i + 1)))
  | [] => ⟨fun _ => rfl, fun i h => by simp [Lib.index] at h⟩
  | b :: r => by
    obtain ⟨ih1, ih2⟩ := parts_index r
    have hge := Lib.index_ge r [10]
    by_cases hb : b = 10
    · subst hb
      have h0 : Lib.index (10 :: r) [10] = 0 := by simp [Lib.index, List.isPrefixOf]
      refine ⟨fun h => by omega, fun i h => ?_⟩
      obtain rfl : i = 0 := by omega
      simp [partsL]
    · have hp : ([10] : List UInt8).isPrefixOf (b :: r) = false := by simp [List.isPrefixOf]; exact fun e => hb e.symm
      have hi : Lib.index (b :: r) [10] = if Lib.index r [10] == -1 then -1 else Lib.index r [10] + 1 := by
        conv => lhs; unfold Lib.index
        rw [hp]; rfl
      rw [hi]
      by_cases hm : Lib.index r [10] = -1
      · rw [if_pos (beq_iff_eq.2 hm)]
        refine ⟨fun _ => ?_, fun i h => by omega⟩
        unfold partsL
        rw [if_neg hb, ih1 hm]
      · rw [if_neg (fun e => hm (beq_iff_eq.1 e))]
        refine ⟨fun h => by omega, fun i h => ?_⟩
        obtain ⟨j, rfl⟩ : ∃ j, i = j + 1 := ⟨i - 1, by omega⟩
        conv => lhs; unfold partsL
        rw [if_neg hb, ih2 j (by omega)]
        simp
theorem parts_split (n : Nat) : ∀ s : List UInt8, s.length ≤ n → Lib.splitK [10] 0 (Lib.count s [10]) s = partsL s ∧ Lib.count s [10] + 1 = (partsL s).length := by
  induction n with
  | zero =>
    intro s hs
    obtain rfl : s = [] := List.length_eq_zero_iff.1 (by omega)
    exact ⟨rfl, rfl⟩
  | succ n ih =>
    intro s hs
    obtain ⟨h1, h2⟩ := parts_index s
    by_cases hm : Lib.index s [10] = -1
    · rw [Lib.count_miss hm, h1 hm]
      exact ⟨rfl, rfl⟩
    · have hge := Lib.index_ge s [10]
      obtain ⟨i, hi⟩ : ∃ i : Nat, Lib.index s [10] = i := ⟨(Lib.index s [10]).toNat, by omega⟩
      have hr := Lib.index_room s [10] (by omega)
      obtain ⟨a, b⟩ := ih (s.drop (i + 1)) (by rw [List.length_drop]; simp at hr; omega)
      rw [Lib.count_hit (by simp) hi, h2 i hi]
      constructor
      · rw [show 1 + Lib.count (s.drop (i + ([10] : List UInt8).length)) [10] = Lib.count (s.drop (i + 1)) [10] + 1 from by simp; omega]
        unfold Lib.splitK
        rw [if_neg (fun e => hm (beq_iff_eq.1 e)), hi]
        simp only [Int.toNat_natCast, Nat.add_zero]
        exact congrArg _ a
      · show 1 + Lib.count (s.drop (i + 1)) [10] + 1 = (partsL (s.drop (i + 1))).length + 1
        omega
/-! ## mustFit -/
def refuseV (n : Int) : Value := .iface 170 (.agg #[.int .i64 n])
def refuseE (n : Int) : Ending := .panicked [{ v := refuseV n, recovered := false }]
def totalL (ls : List (List UInt8)) : Nat := (ls.map List.length).sum
theorem totalL_snoc (ls : List (List UInt8)) (y : List UInt8) : totalL (ls ++ [y]) = totalL ls + y.length := by unfold totalL; simp
theorem totalL_take {ls : List (List UInt8)} {k : Nat} {y : List UInt8} (h : ls[k]? = some y) : totalL (ls.take (k + 1)) = totalL (ls.take k) + y.length := by
  obtain ⟨hk, rfl⟩ := List.getElem?_eq_some_iff.1 h
  rw [List.take_succ_eq_append_getElem hk, totalL_snoc]
theorem totalL_le (ls : List (List UInt8)) (k : Nat) : totalL (ls.take k) ≤ totalL ls := by
  conv => rhs; rw [← List.take_append_drop k ls]
  unfold totalL; rw [List.map_append, List.sum_append]; omega
set_option maxRecDepth 100000 in
set_option maxHeartbeats 2000000 in
theorem mustFit_any (k : Nat) (ls : List (List UInt8)) (n c : Nat) (cs : Array Value) (w : World) (hn : n = ls.length) (hn2 : n ≤ 1000) (hk : Has w k 9 cs) (hcs : ∀ (j : Nat) (y : List UInt8), ls[j]? = some y → cs[j]? = some (Value.string ⟨y.toArray⟩) ∧ y.length ≤ 1099511627776) :
    Calls Tryd.prog 131 #[.slice (some ⟨k, 0, none⟩) n c] w fun e w' => ((totalL ls ≤ 65536 ∧ e = .returned (.tuple #[])) ∨ (65536 < totalL ls ∧ e = refuseE 2)) ∧ w' = w := by
  have hcs' := Lib.hid hcs
  have hk' := Lib.hid hk
  have hn' := Lib.hid hn
  clear hcs hk hn
  go_enter Tryd.func131, Tryd.ntmps131
  go_wp2
  go_loopw [2, 7] (fun l x wr => ∃ j L : Nat, j ≤ n ∧ x = .int .i64 (j : Int) ∧ totalL (ls.take j) + L = 65536 ∧ l = .int .i64 (L : Int) ∧ wr = w) (fun _ x _ => n - (intOf x).toNat)
  case atStart => exact ⟨0, 65536, Nat.zero_le _, rfl, by simp [totalL], rfl, rfl⟩
  case round =>
    obtain ⟨j, L, hj, rfl, ht, rfl, rfl⟩ := hrel
    have ht' := Lib.hid ht
    clear ht
    by_cases hlt : j < n
    · have hltI : (j : Int) < (n : Int) := by omega
      obtain ⟨y, hy⟩ : ∃ y, ls[j]? = some y := ⟨ls[j]'(by have := hn'.out; omega), List.getElem?_eq_getElem _⟩
      obtain ⟨hc, hyl⟩ := hcs'.out j y hy
      have ck := hk'.out.cell j
      rw [hc] at ck
      have hts := Lib.hid (totalL_take hy)
      have hy' := Lib.hid hy
      clear hy hc
      by_cases hf : y.length ≤ L
      · have hfI : decide (L < y.length) = false := decide_eq_false (by omega)
        have hfI2 : ¬ (L : Int) < (y.length : Int) := by omega
        have hL : L ≤ 65536 := by have := ht'.out; omega
        go_wp2
        exact ⟨⟨j + 1, L - y.length, by omega, by go_num, by rw [hts.out]; have := ht'.out; omega, by go_num, trivial⟩, by simp [intOf]; omega⟩
      · have hfI : decide (L < y.length) = true := decide_eq_true (by omega)
        have hfI2 : (L : Int) < (y.length : Int) := by omega
        go_wp2
        refine ⟨rfl, .inr ⟨?_, rfl⟩, rfl⟩
        have := totalL_le ls (j + 1)
        rw [hts.out] at this
        have := ht'.out
        omega
    · obtain rfl : j = n := by omega
      go_wp2
      go_end0
      refine ⟨.inl ⟨?_, rfl⟩, rfl⟩
      have := ht'.out
      rw [List.take_of_length_le (by have := hn'.out; omega)] at this
      omega
/-! ## mustBeClean -/
def SgT (w : World) : Prop := w.cell? ⟨3, 0, none⟩ = some (.int .u8 13) ∧ w.cell? ⟨3, 1, none⟩ = some (.int .u8 10) ∧ w.cell? ⟨3, 2, none⟩ = some (.int .u8 0)
theorem SgT.lt {w : World} (h : SgT w) : 3 < w.heap.size := World.block_lt_of_cell? w _ h.1
theorem SgT.below {w w' : World} (h : SgT w) (hb : Below w.heap.size w w') : SgT w' := ⟨(hb.cell h.lt).trans h.1, (hb.cell h.lt).trans h.2.1, (hb.cell h.lt).trans h.2.2⟩
theorem ibE_no (c : UInt8) : ∀ (l : List UInt8), c ∉ l → Lib.indexByte l c = -1
  | [], _ => rfl
  | b :: r, h => by
    simp only [List.mem_cons, not_or] at h
    have hb : ¬ b = c := fun e => h.1 e.symm
    simp [Lib.indexByte, hb, ibE_no c r h.2]
theorem ibE_yes (c : UInt8) : ∀ (l : List UInt8), c ∈ l → 0 ≤ Lib.indexByte l c
  | [], h => absurd h (by simp)
  | b :: r, h => by
    by_cases hb : b = c
    · simp [Lib.indexByte, hb]
    · have hr : c ∈ r := by
        rcases List.mem_cons.1 h with e | e
        · exact absurd e.symm hb
        · exact e
      have := ibE_yes c r hr
      simp only [Lib.indexByte, beq_iff_eq, hb, if_false]
      split <;> omega
/-- None of the first j signs is in a text. -/
def NoneOf (s : List UInt8) (j : Nat) : Prop := ∀ b ∈ barL.take j, b ∉ s
theorem cleanB_iff (s : List UInt8) (n : Nat) : cleanB s n = true ↔ soundB s = true ∧ NoneOf s n := by
  unfold cleanB NoneOf
  simp [List.all_eq_true]
theorem noneOf_le {s : List UInt8} {i j : Nat} (h : NoneOf s j) (hij : i ≤ j) : NoneOf s i := fun b hb => h b (by
  rw [← Nat.min_eq_left hij, ← List.take_take] at hb
  exact List.mem_of_mem_take hb)
theorem noneOf_succ {s : List UInt8} {j : Nat} {c : UInt8} (hc : barL[j]? = some c) : NoneOf s (j + 1) ↔ NoneOf s j ∧ c ∉ s := by
  obtain ⟨hj, rfl⟩ := List.getElem?_eq_some_iff.1 hc
  unfold NoneOf
  rw [List.take_succ_eq_append_getElem hj]
  constructor
  · intro h
    exact ⟨fun b hb => h b (List.mem_append_left _ hb), h _ (List.mem_append_right _ (List.mem_singleton.2 rfl))⟩
  · rintro ⟨h1, h2⟩ b hb
    rcases List.mem_append.1 hb with hb | hb
    · exact h1 b hb
    · rw [List.mem_singleton.1 hb]; exact h2
def CleanR (s : List UInt8) (n : Nat) (w : World) (e : Ending) (w' : World) : Prop :=
  ((cleanB s n = true ∧ e = .returned (.tuple #[])) ∨ (cleanB s n = false ∧ e = refuseE 2)) ∧ Below w.heap.size w w'
set_option maxRecDepth 100000 in
set_option maxHeartbeats 4000000 in
theorem clean_any (s : List UInt8) (n : Nat) (w : World) (hn : n ≤ 3) (hl : s.length ≤ 1099511627776) (hT : TabU w) (hS : SgT w) :
    Calls Tryd.prog 132 #[.string ⟨s.toArray⟩, .int .i64 (n : Int)] w (CleanR s n w) := by
  have hso := Lib.hid (sound_any ⟨s.toArray⟩ w (by show s.toArray.size ≤ _; simp; omega) hT)
  have hS' := Lib.hid hS
  clear hT hS
  unfold CleanR
  go_enter Tryd.func132, Tryd.ntmps132
  go_wp2_with fail
  refine hso.out.mono ?_
  rintro e w1 ⟨rfl, hb1⟩
  have hS1 := Lib.hid (hS'.out.below hb1)
  have hb1' := Lib.hid hb1
  clear hb1
  cases hs : soundB s with
  | false =>
    have hno : cleanB s n = false := by unfold cleanB; rw [hs]; rfl
    go_wp2
    exact ⟨rfl, .inr ⟨hno, rfl⟩, hb1'.out⟩
  | true =>
    have hs' := Lib.hid hs
    clear hs
    go_wp2
    go_loopw [11] (fun x wr => ∃ j : Nat, j ≤ n ∧ x = .int .i64 (j : Int) ∧ NoneOf s j ∧ wr = w1) (fun x _ => n - (intOf x).toNat)
    case atStart => exact ⟨0, Nat.zero_le _, rfl, fun b hb => by simp at hb, rfl⟩
    case round =>
      obtain ⟨j, hj, rfl, hno, rfl⟩ := hrel
      have hno' := Lib.hid hno
      clear hno
      by_cases hlt : j < n
      · have hltI : (j : Int) < (n : Int) := by omega
        obtain ⟨c, hc, hcell⟩ : ∃ c : UInt8, barL[j]? = some c ∧ wr.cell? ⟨3, j, none⟩ = some (.int .u8 (c.toNat : Int)) := by
          have : j = 0 ∨ j = 1 ∨ j = 2 := by omega
          rcases this with rfl | rfl | rfl
          · exact ⟨13, rfl, hS1.out.1⟩
          · exact ⟨10, rfl, hS1.out.2.1⟩
          · exact ⟨0, rfl, hS1.out.2.2⟩
        have hib := Tryd.strings_IndexByte ⟨s.toArray⟩ (c.toNat : Int) wr
        have hge := Lib.indexByte_ge s c
        rw [show ((c.toNat : Int)).toNat.toUInt8 = c by simp, show (⟨s.toArray⟩ : ByteArray).data.toList = s from rfl] at hib
        by_cases hm : c ∈ s
        · have hy := ibE_yes c s hm
          have hbad := Lib.hid (show cleanB s n = false from by
            cases h : cleanB s n with
            | false => rfl
            | true =>
              have := ((noneOf_succ hc).1 (noneOf_le ((cleanB_iff s n).1 h).2 (by omega : j + 1 ≤ n))).2
              exact absurd hm this)
          generalize Lib.indexByte s c = z at hib hge hy
          have hib' := Lib.hid hib
          clear hc hm hib
          go_wp2_with (go_at_call 161; (with_reducible refine Calls.mono hib'.out ?_); rintro e w2 ⟨rfl, rfl⟩)
          go_wp2
          exact ⟨rfl, .inr ⟨hbad.out, rfl⟩, hb1'.out⟩
        · have hy := ibE_no c s hm
          have hgood := Lib.hid ((noneOf_succ hc).2 ⟨hno'.out, hm⟩)
          rw [hy] at hib
          have hib' := Lib.hid hib
          clear hc hm hib hge hy
          go_wp2_with (go_at_call 161; (with_reducible refine Calls.mono hib'.out ?_); rintro e w2 ⟨rfl, rfl⟩)
          go_wp2
          exact ⟨⟨j + 1, by omega, by go_num, hgood.out, trivial⟩, by simp [intOf]; omega⟩
      · obtain rfl : j = n := by omega
        go_wp2
        go_end0
        exact ⟨.inl ⟨(cleanB_iff s j).2 ⟨hs'.out, hno'.out⟩, rfl⟩, hb1'.out⟩
end Go.Proofs.YtlbiniibkbhghaaDoor

namespace Go.Proofs.YtlbiniibkbhghaaDoor
open Go.RowKit Go.Shelf

/-! ## A region whose last call is refused, in whatever order -/
def sayOps : Array Oper := #[{ dst := some 32, op := Op.fieldAddr 182 (Operand.tmp 5) 2, type := 0, pos := "frame.go:75", after := #[], guard := none },
  { dst := some 33, op := Op.load 179 (Operand.tmp 32), type := 179, pos := "frame.go:75", after := #[{ on := 0, ground := Ground.data }], guard := none },
  { dst := some 34, op := Op.move (Operand.tmp 3), type := 116, pos := "frame.go:75", after := #[], guard := none },
  { dst := some 35, op := Op.call { callee := Callee.value (Operand.tmp 33), args := #[Operand.tmp 34], argTypes := #[116] }, type := 9, pos := "frame.go:75", after := #[{ on := 1, ground := Ground.data }, { on := 2, ground := Ground.data }], guard := none },
  { dst := some 36, op := Op.fieldAddr 182 (Operand.tmp 5) 1, type := 0, pos := "frame.go:75", after := #[], guard := none },
  { dst := some 37, op := Op.load 3 (Operand.tmp 36), type := 3, pos := "frame.go:75", after := #[{ on := 4, ground := Ground.data }], guard := none },
  { dst := some 38, op := Op.call { callee := Callee.value (Operand.func 132), args := #[Operand.tmp 35, Operand.tmp 37], argTypes := #[9, 3] }, type := 0, pos := "frame.go:75", after := #[{ on := 3, ground := Ground.data }, { on := 5, ground := Ground.data }, { on := 3, ground := Ground.chain }], guard := none }]
set_option maxRecDepth 100000 in
set_option maxHeartbeats 4000000 in
theorem say_no {Q : Exit → Act → World → Prop} {x0 x1 x2 x4 x6 x7 x8 x9 x10 x11 x12 x13 x14 x15 x16 x17 x18 x19 x20 x21 x22 x23 x24 x25 x26 x27 x28 x29 x30 x31 x32 x33 x34 x35 x36 x37 x38 x39 x40 : Value} (id k s fn : Nat) (tx : Value) (n : Int) (w : World) (R : Ending → World → Prop)
    (hfn : ∀ args W, (callFunc fn args).run Tryd.prog W = .ok (.enter fn args) W)
    (h2 : w.drew.cell? ⟨s, 2, none⟩ = some (.func (.func fn) #[] #[])) (h1 : w.drew.cell? ⟨s, 1, none⟩ = some (.int .i64 n))
    (htx : Calls Tryd.prog fn #[.pointer (some ⟨k, 0, none⟩)] w.drew fun r w' => r = .returned tx ∧ w' = w.drew)
    (hcl : Calls Tryd.prog 132 #[tx, .int .i64 n] w.drew fun r w' => r = refuseE 2 ∧ R r w')
    (hQ : ∀ a W, a.defers = [] → R (refuseE 2) W → Q (.panic [{ v := refuseV 2, recovered := false }]) a W) :
    (Code.region id sayOps true).wp Tryd.prog Q { tmps := #[x0, x1, x2, .pointer (some ⟨k, 0, none⟩), x4, .pointer (some ⟨s, 0, none⟩), x6, x7, x8, x9, x10, x11, x12, x13, x14, x15, x16, x17, x18, x19, x20, x21, x22, x23, x24, x25, x26, x27, x28, x29, x30, x31, x32, x33, x34, x35, x36, x37, x38, x39, x40], defers := [] } w := by
  refine wp_region_any (by kernel_rfl) ?_
  change wpAny _ _ _ _ _ _ _ w.drew
  obtain ⟨w5, hw5⟩ : ∃ w5, w.drew = w5 := ⟨_, rfl⟩
  rw [hw5] at h1 h2 htx hcl ⊢
  clear hw5
  obtain ⟨I, hI⟩ : ∃ I : Array Bool → Act → World → Prop, I = (fun l a W => ∃ t32 t33 t34 t35 t36 t37 t38 : Value, a = { tmps := #[x0, x1, x2, .pointer (some ⟨k, 0, none⟩), x4, .pointer (some ⟨s, 0, none⟩), x6, x7, x8, x9, x10, x11, x12, x13, x14, x15, x16, x17, x18, x19, x20, x21, x22, x23, x24, x25, x26, x27, x28, x29, x30, x31, t32, t33, t34, t35, t36, t37, t38, x39, x40], defers := [] } ∧ W = w5 ∧ l.getD 6 false = false ∧
    (l.getD 0 false = true → t32 = .pointer (some ⟨s, 2, none⟩)) ∧ (l.getD 1 false = true → t33 = .func (.func fn) #[] #[]) ∧ (l.getD 2 false = true → t34 = .pointer (some ⟨k, 0, none⟩)) ∧
    (l.getD 3 false = true → t35 = tx) ∧ (l.getD 4 false = true → t36 = .pointer (some ⟨s, 1, none⟩)) ∧ (l.getD 5 false = true → t37 = .int .i64 n)) := ⟨_, rfl⟩
  refine wpAny_inv I ?_ ?_ _ _ _ _ rfl (by decide) ?_
  · intro l a W hs hI2 hr
    rw [hI] at hI2
    obtain ⟨_, _, _, _, _, _, _, _, _, h6, _⟩ := hI2
    have hd := all_done (by kernel_rfl) hs hr 6 (by decide)
    rw [hd] at h6; cases h6
  · intro l a W i hs hi hI2
    rw [hI] at hI2
    obtain ⟨hi1, o, ho, hdep⟩ := mem_ready.1 hi
    have hil : i < l.size := by
      rcases Nat.lt_or_ge i l.size with h | h
      · exact h
      · simp [Array.getD, show ¬ i < l.size by omega] at hi1
    have hil2 : i < 7 := by rw [hs] at hil; exact hil
    have hst := getD_set hil
    obtain ⟨t32, t33, t34, t35, t36, t37, t38, rfl, rfl, g6, g0, g1, g2, g3, g4, g5⟩ := hI2
    have hI' := Lib.hid hI
    clear hI
    rcases (by omega : i = 0 ∨ i = 1 ∨ i = 2 ∨ i = 3 ∨ i = 4 ∨ i = 5 ∨ i = 6) with rfl | rfl | rfl | rfl | rfl | rfl | rfl
    · clear hi ho hdep
      simp [wpOp, sayOps, Region.wanted, Oper.wp, execOp, go_sem]
      refine .inl ?_
      rw [hI'.out]
      refine ⟨_, _, _, _, _, _, _, rfl, rfl, ?_, ?_, ?_, ?_, ?_, ?_, ?_⟩ <;> (simp only [hst, Nat.reduceEqDiff, reduceIte]; first | assumption | (intro _; first | rfl | trivial))
    · clear hi
      simp [sayOps] at ho
      subst ho
      obtain rfl := g0 (hdep ⟨0, .data⟩ (by simp) rfl)
      simp [wpOp, sayOps, Region.wanted, Oper.wp, execOp, go_sem, h2]
      refine .inl ?_
      rw [hI'.out]
      refine ⟨_, _, _, _, _, _, _, rfl, rfl, ?_, ?_, ?_, ?_, ?_, ?_, ?_⟩ <;> (simp only [hst, Nat.reduceEqDiff, reduceIte]; first | assumption | (intro _; first | rfl | trivial))
    · clear hi ho hdep
      simp [wpOp, sayOps, Region.wanted, Oper.wp, execOp, go_sem]
      refine .inl ?_
      rw [hI'.out]
      refine ⟨_, _, _, _, _, _, _, rfl, rfl, ?_, ?_, ?_, ?_, ?_, ?_, ?_⟩ <;> (simp only [hst, Nat.reduceEqDiff, reduceIte]; first | assumption | (intro _; first | rfl | trivial))
    · clear hi
      simp [sayOps] at ho
      subst ho
      obtain rfl := g1 (hdep ⟨1, .data⟩ (by simp) rfl)
      obtain rfl := g2 (hdep ⟨2, .data⟩ (by simp) rfl)
      simp [wpOp, sayOps, Region.wanted, Oper.wp, execOp, go_sem, hfn]
      refine .inl (htx.mono ?_)
      rintro r w6 ⟨rfl, rfl⟩
      show I _ _ _
      rw [hI'.out]
      refine ⟨_, _, _, _, _, _, _, rfl, rfl, ?_, ?_, ?_, ?_, ?_, ?_, ?_⟩ <;> (simp only [hst, Nat.reduceEqDiff, reduceIte]; first | assumption | (intro _; first | rfl | trivial))
    · clear hi ho hdep
      simp [wpOp, sayOps, Region.wanted, Oper.wp, execOp, go_sem]
      refine .inl ?_
      rw [hI'.out]
      refine ⟨_, _, _, _, _, _, _, rfl, rfl, ?_, ?_, ?_, ?_, ?_, ?_, ?_⟩ <;> (simp only [hst, Nat.reduceEqDiff, reduceIte]; first | assumption | (intro _; first | rfl | trivial))
    · clear hi
      simp [sayOps] at ho
      subst ho
      obtain rfl := g4 (hdep ⟨4, .data⟩ (by simp) rfl)
      simp [wpOp, sayOps, Region.wanted, Oper.wp, execOp, go_sem, h1]
      refine .inl ?_
      rw [hI'.out]
      refine ⟨_, _, _, _, _, _, _, rfl, rfl, ?_, ?_, ?_, ?_, ?_, ?_, ?_⟩ <;> (simp only [hst, Nat.reduceEqDiff, reduceIte]; first | assumption | (intro _; first | rfl | trivial))
    · clear hi
      simp [sayOps] at ho
      subst ho
      obtain rfl := g3 (hdep ⟨3, .data⟩ (by simp) rfl)
      obtain rfl := g5 (hdep ⟨5, .data⟩ (by simp) rfl)
      have hen := enters_of Tryd.func132 (by kernel_rfl) rfl
      simp [wpOp, sayOps, Region.wanted, Oper.wp, go_sem]
      refine .inl (hcl.mono ?_)
      rintro r w7 ⟨rfl, hR⟩
      exact hQ _ _ rfl hR
  · rw [hI]
    exact ⟨_, _, _, _, _, _, _, rfl, rfl, by simp [Array.getD], by simp [Array.getD], by simp [Array.getD], by simp [Array.getD], by simp [Array.getD], by simp [Array.getD], by simp [Array.getD]⟩
end Go.Proofs.YtlbiniibkbhghaaDoor

namespace Go.Proofs.YtlbiniibkbhghaaDoor
open Go.RowKit Go.Shelf
attribute [local go_sem] Oper.semAt_some

/-! ## sayings, framed -/
def sayCells : Array Value := #[.int .i64 5, .int .i64 3, .func (.func 165) #[] #[], .func (.func 166) #[] #[],
  .int .i64 4, .int .i64 2, .func (.func 167) #[] #[], .func (.func 166) #[] #[],
  .int .i64 3, .int .i64 1, .func (.func 168) #[] #[], .func (.func 169) #[] #[]]
theorem sayings_any (w : World) : Calls Tryd.prog 135 #[] w fun e w' => e = .returned (.slice (some ⟨w.heap.size, 0, none⟩) 3 3) ∧ w' = w.alloc (.cells sayCells 182) := by
  go_enter Tryd.func135, Tryd.ntmps135
  go_wp2
  go_ret
  exact ⟨rfl, rfl⟩
def evCells (e : Ev) : Array Value := #[.string ⟨e.1.toArray⟩, .string ⟨e.2.1.toArray⟩, .string ⟨e.2.2.toArray⟩]
def evV (e : Ev) : Value := .agg (evCells e)
def frCells (e : Ev) (b : Value) : Array Value := #[.string ⟨e.1.toArray⟩, .string ⟨e.2.1.toArray⟩, .string ⟨e.2.2.toArray⟩, b]
theorem text1_any (k : Nat) (e : Ev) (b : Value) (w : World) (hk : Has w k 175 (frCells e b)) : Calls Tryd.prog 165 #[.pointer (some ⟨k, 0, none⟩)] w fun r w' => r = .returned (.string ⟨e.1.toArray⟩) ∧ w' = w := by
  have c0 := hk.cell 0
  unfold frCells at c0
  go_enter Tryd.func165, Tryd.ntmps165
  go_wp2
  go_ret
  exact ⟨rfl, rfl⟩
theorem text2_any (k : Nat) (e : Ev) (b : Value) (w : World) (hk : Has w k 175 (frCells e b)) : Calls Tryd.prog 167 #[.pointer (some ⟨k, 0, none⟩)] w fun r w' => r = .returned (.string ⟨e.2.1.toArray⟩) ∧ w' = w := by
  have c0 := hk.cell 1
  unfold frCells at c0
  go_enter Tryd.func167, Tryd.ntmps167
  go_wp2
  go_ret
  exact ⟨rfl, rfl⟩
theorem text3_any (k : Nat) (e : Ev) (b : Value) (w : World) (hk : Has w k 175 (frCells e b)) : Calls Tryd.prog 168 #[.pointer (some ⟨k, 0, none⟩)] w fun r w' => r = .returned (.string ⟨e.2.2.toArray⟩) ∧ w' = w := by
  have c0 := hk.cell 2
  unfold frCells at c0
  go_enter Tryd.func168, Tryd.ntmps168
  go_wp2
  go_ret
  exact ⟨rfl, rfl⟩
def FramedR (e : Ev) (w : World) (r : Ending) (w' : World) : Prop :=
  ((rightE e = true ∧ r = .returned (.pointer (some ⟨w.heap.size + 1, 0, none⟩)) ∧ Has w' (w.heap.size + 1) 175 (frCells e (.slice none 0 0))) ∨ (rightE e = false ∧ r = refuseE 2)) ∧ Below w.heap.size w w'
structure FrS (w : World) (e : Ev) (g j : Nat) (wr : World) : Prop where
  le : j ≤ 3
  c1 : 0 < j → cleanB e.1 3 = true
  c2 : 1 < j → cleanB e.2.1 2 = true
  c3 : 2 < j → cleanB e.2.2 1 = true
  fr : Has wr (w.heap.size + 1) 175 (frCells e (.slice none 0 0))
  sy : Has wr g 182 sayCells
  be : Below w.heap.size w wr
theorem fits_sum (e : Ev) : totalL [e.1, e.2.1, e.2.2] = e.1.length + e.2.1.length + e.2.2.length := by simp [totalL]; omega
set_option maxRecDepth 100000 in
set_option maxHeartbeats 4000000 in
theorem framed_any (e : Ev) (w : World) (hl : e.1.length ≤ 1099511627776 ∧ e.2.1.length ≤ 1099511627776 ∧ e.2.2.length ≤ 1099511627776) (hT : TabU w) (hS : SgT w) :
    Calls Tryd.prog 87 #[evV e] w (FramedR e w) := by
  obtain ⟨l1, l2, l3⟩ := hl
  have hT' := Lib.hid hT
  have hS' := Lib.hid hS
  have hfs := fits_sum e
  have hmf := Lib.hid (fun (k c : Nat) (W : World) (hk : Has W k 9 #[.string ⟨e.1.toArray⟩, .string ⟨e.2.1.toArray⟩, .string ⟨e.2.2.toArray⟩]) => mustFit_any k [e.1, e.2.1, e.2.2] 3 c _ W rfl (by omega) hk (fun j y hj => by
    match j, hj with
    | 0, h => obtain rfl : e.1 = y := by simpa using h
              exact ⟨rfl, l1⟩
    | 1, h => obtain rfl : e.2.1 = y := by simpa using h
              exact ⟨rfl, l2⟩
    | 2, h => obtain rfl : e.2.2 = y := by simpa using h
              exact ⟨rfl, l3⟩
    | j + 3, h => simp at h))
  rw [hfs] at hmf
  have hfr := Lib.hid (show Has ((w.alloc (.cells (evCells e) 53)).alloc (.cells (frCells e (.slice none 0 0)) 175)) (w.heap.size + 1) 175 (frCells e (.slice none 0 0)) from by
    have := Has.new (w.alloc (.cells (evCells e) 53)) 175 (frCells e (.slice none 0 0))
    simpa using this)
  have hb2 := Lib.hid (show Below w.heap.size w ((w.alloc (.cells (evCells e) 53)).alloc (.cells (frCells e (.slice none 0 0)) 175)) from ((Below.refl _ _).alloc (Nat.le_refl _) _).alloc (by simp) _)
  clear hT hS hfs
  unfold evV evCells
  unfold FramedR
  go_enter Tryd.func87, Tryd.ntmps87
  obtain ⟨w2, hw2⟩ : ∃ w2, (w.alloc (.cells (evCells e) 53)).alloc (.cells (frCells e (.slice none 0 0)) 175) = w2 := ⟨_, rfl⟩
  have hz2 : w2.heap.size = w.heap.size + 1 + 1 := by rw [← hw2]; simp
  rw [hw2] at hfr hb2
  have hall := Lib.hid (fun W (hb : Below w2.heap.size w2 W) => show W.cell? ⟨w.heap.size + 1, 0, none⟩ = some (.string ⟨e.1.toArray⟩) ∧ W.cell? ⟨w.heap.size + 1, 1, none⟩ = some (.string ⟨e.2.1.toArray⟩) ∧ W.cell? ⟨w.heap.size + 1, 2, none⟩ = some (.string ⟨e.2.2.toArray⟩) from
    ⟨(hfr.out.below hb hfr.out.lt).cell 0, (hfr.out.below hb hfr.out.lt).cell 1, (hfr.out.below hb hfr.out.lt).cell 2⟩)
  have hnw := Lib.hid (show Has (w2.alloc (.cells #[.string ⟨e.1.toArray⟩, .string ⟨e.2.1.toArray⟩, .string ⟨e.2.2.toArray⟩] 9)).drew (w.heap.size + 1 + 1) 9 #[.string ⟨e.1.toArray⟩, .string ⟨e.2.1.toArray⟩, .string ⟨e.2.2.toArray⟩] from by
    have := Has.new w2 9 #[.string ⟨e.1.toArray⟩, .string ⟨e.2.1.toArray⟩, .string ⟨e.2.2.toArray⟩]
    rw [hz2] at this
    exact this)
  by_cases hfit : e.1.length + e.2.1.length + e.2.2.length ≤ 65536
  · have hmfY := Lib.hid (fun k c W hk => (hmf.out k c W hk).mono (R' := fun r w' => r = .returned (.tuple #[]) ∧ w' = W) (fun r w' h => ⟨by rcases h.1 with h | h; exact h.2; exact absurd h.1 (by omega), h.2⟩))
    clear hmf
    go_upto_region 2 with fail
    rw [show (w.alloc (.cells #[.string ⟨e.1.toArray⟩, .string ⟨e.2.1.toArray⟩, .string ⟨e.2.2.toArray⟩] 53)).alloc (.cells #[.string ⟨e.1.toArray⟩, .string ⟨e.2.1.toArray⟩, .string ⟨e.2.2.toArray⟩, .slice none 0 0] 175) = w2 from hw2]
    clear hw2
    go_region_held3 (fun W => W.cell? ⟨w.heap.size + 1, 0, none⟩ = some (.string ⟨e.1.toArray⟩) ∧ W.cell? ⟨w.heap.size + 1, 1, none⟩ = some (.string ⟨e.2.1.toArray⟩) ∧ W.cell? ⟨w.heap.size + 1, 2, none⟩ = some (.string ⟨e.2.2.toArray⟩))
      (first
      | (with_reducible exact hall.out _ (Below.refl _ _).drew)
      | (with_reducible exact hall.out _ ((Below.refl _ _).alloc (Nat.le_refl _) _).drew)
      | fail)
      (first
      | (go_at_call 131; (with_reducible refine Calls.mono (hmfY.out _ _ _ hnw.out) ?_); rintro r w3 ⟨rfl, rfl⟩)
      | fail)
    obtain ⟨w3, hw3⟩ : ∃ w3, (w2.alloc (.cells #[.string ⟨e.1.toArray⟩, .string ⟨e.2.1.toArray⟩, .string ⟨e.2.2.toArray⟩] 9)).drew = w3 := ⟨_, rfl⟩
    have hb23 : Below w2.heap.size w2 w3 := by rw [← hw3]; exact ((Below.refl _ _).alloc (Nat.le_refl _) _).drew
    rw [hw3]
    clear hw3 hnw hall hz2 hmfY
    have hb3 := Lib.hid (hb2.out.trans (hb23.mono hb2.out.size))
    have hfr3 := Lib.hid (hfr.out.below hb23 hfr.out.lt)
    clear hb23 hfr hb2
    have hb4 := Lib.hid (hb3.out.alloc hb3.out.size (.cells sayCells 182))
    have hfr4 := Lib.hid (hfr3.out.alloc (.cells sayCells 182))
    have hsy4 := Lib.hid (Has.new w3 182 sayCells)
    go_wp2_with (go_at_call 135; (with_reducible refine Calls.mono (sayings_any _) ?_); rintro r w4 ⟨rfl, rfl⟩)
    obtain ⟨g, hg⟩ : ∃ g, w3.heap.size = g := ⟨_, rfl⟩
    obtain ⟨w4, hw4⟩ : ∃ w4, w3.alloc (.cells sayCells 182) = w4 := ⟨_, rfl⟩
    rw [hg] at hsy4
    rw [hw4] at hb4 hfr4 hsy4
    rw [hw4, hg]
    have hg2 : w.heap.size + 1 < g := by rw [← hg]; exact hfr3.out.lt
    clear hw4 hg hb3 hfr3
    go_loopw [28] (fun x wr => ∃ j : Nat, x = .int .i64 (j : Int) ∧ FrS w e g j wr) (fun x _ => 3 - (intOf x).toNat)
    case atStart => exact ⟨0, rfl, by omega, fun h => by omega, fun h => by omega, fun h => by omega, hfr4.out, hsy4.out, hb4.out⟩
    case round =>
      obtain ⟨j, rfl, hF⟩ := hrel
      have hj := hF.le
      rcases (show j = 3 ∨ j = 0 ∨ j = 1 ∨ j = 2 by omega) with rfl | rfl | rfl | rfl
      · have hF' := Lib.hid hF
        clear hF
        go_wp2
        go_ret
        refine ⟨.inl ⟨?_, rfl, hF'.out.fr⟩, hF'.out.be⟩
        unfold rightE fitsE
        rw [decide_eq_true hfit, hF'.out.c1 (by omega), hF'.out.c2 (by omega), hF'.out.c3 (by omega)]
        rfl
      · have s0 := hF.sy.cell 0
        have s1 := hF.sy.cell 1
        have s2 := hF.sy.cell 2
        have s3 := hF.sy.cell 3
        unfold sayCells at s0 s1 s2 s3
        have hF' := Lib.hid hF
        have hnew := Has.new wr 182 #[.int .i64 5, .int .i64 3, .func (.func 165) #[] #[], .func (.func 166) #[] #[]]
        have hb5 : Below wr.heap.size wr (wr.alloc (.cells #[.int .i64 5, .int .i64 3, .func (.func 165) #[] #[], .func (.func 166) #[] #[]] 182)) := (Below.refl _ _).alloc (Nat.le_refl _) _
        obtain ⟨w5, hw5⟩ : ∃ w5, wr.alloc (.cells #[.int .i64 5, .int .i64 3, .func (.func 165) #[] #[], .func (.func 166) #[] #[]] 182) = w5 := ⟨_, rfl⟩
        rw [hw5] at hnew hb5
        have hall5 := Lib.hid (fun W (hb : Below w5.heap.size w5 W) => show W.cell? ⟨wr.heap.size, 1, none⟩ = some (.int .i64 3) ∧ W.cell? ⟨wr.heap.size, 2, none⟩ = some (.func (.func 165) #[] #[]) from ⟨(hnew.below hb hnew.lt).cell 1, (hnew.below hb hnew.lt).cell 2⟩)
        have htx := Lib.hid (fun W (hb : Below w5.heap.size w5 W) => text1_any (w.heap.size + 1) e (.slice none 0 0) W ((hF.fr.below hb5 hF.fr.lt).below hb (Nat.lt_of_lt_of_le hF.fr.lt hb5.size)))
        have hb05 := Lib.hid (hF.be.trans (hb5.mono hF.be.size))
        have hcl0 := fun W (hb : Below w5.heap.size w5 W) => clean_any e.1 3 W (by omega) (by omega) (hT'.out.below (hb05.out.trans (hb.mono hb05.out.size))) (hS'.out.below (hb05.out.trans (hb.mono hb05.out.size)))
        have hb5' := Lib.hid hb5
        clear hb5 hnew hF
        by_cases hcb : cleanB e.1 3 = true
        · have hcl := Lib.hid (fun W (hb : Below w5.heap.size w5 W) => (hcl0 W hb).mono (R' := fun r w' => r = .returned (.tuple #[]) ∧ Below W.heap.size W w') (fun r w' h => ⟨by rcases h.1 with h | h; exact h.2; (have := h.1; rw [hcb] at this; cases this), h.2⟩))
          have hcb' := Lib.hid hcb
          clear hcl0 hcb
          go_upto_region 6 with fail
          try rw [hw5]
          clear hw5
          go_region_held3 (fun W => W.cell? ⟨wr.heap.size, 1, none⟩ = some (.int .i64 3) ∧ W.cell? ⟨wr.heap.size, 2, none⟩ = some (.func (.func 165) #[] #[]))
            (first
            | (with_reducible exact hall5.out _ (Below.refl _ _).drew)
            | (with_reducible exact hall5.out _ hd7.out)
            | fail)
            (first
            | (go_at_call 165; (with_reducible refine Calls.mono (htx.out _ (Below.refl _ _).drew) ?_); rintro r w6 ⟨rfl, rfl⟩)
            | (go_at_call 132; (with_reducible refine Calls.mono (hcl.out _ (Below.refl _ _).drew) ?_); rintro r w7 ⟨rfl, hb7⟩; have hd7 := Lib.hid ((Below.refl w5.heap.size w5).drew.trans (hb7.mono (Nat.le_refl _))); clear hb7)
            | fail)
          go_wp2
          have hbr := hb5'.out.trans (hd7.out.mono hb5'.out.size)
          have hcb := hcb'.out
          have hF := hF'.out
          exact ⟨⟨1, by go_num, by omega, fun _ => hcb, fun h => by omega, fun h => by omega, hF.fr.below hbr hF.fr.lt, hF.sy.below hbr hF.sy.lt, hF.be.trans (hbr.mono hF.be.size)⟩, by simp [intOf]⟩
        · have hcb : cleanB e.1 3 = false := by simpa using hcb
          have hcl := Lib.hid (fun W (hb : Below w5.heap.size w5 W) => (hcl0 W hb).mono (R' := fun r w' => r = refuseE 2 ∧ Below W.heap.size W w') (fun r w' h => ⟨by rcases h.1 with h | h; (have := h.1; rw [hcb] at this; cases this); exact h.2, h.2⟩))
          have hbad := Lib.hid (show rightE e = false from by unfold rightE; rw [hcb]; simp)
          clear hcl0 hcb
          go_upto_region 6 with fail
          try rw [hw5]
          clear hw5
          obtain ⟨i1, i2⟩ := hall5.out _ (Below.refl _ _).drew
          refine say_no 6 (w.heap.size + 1) wr.heap.size 165 (.string ⟨(e.1).toArray⟩) 3 w5 (fun r w' => FramedR e w r w') (enters_of Tryd.func165 (by kernel_rfl) rfl) i2 i1 (htx.out _ (Below.refl _ _).drew) ((hcl.out _ (Below.refl _ _).drew).mono ?_) ?_
          · rintro r w7 ⟨rfl, hb7⟩
            exact ⟨rfl, .inr ⟨hbad.out, rfl⟩, hF'.out.be.trans ((hb5'.out.trans (((Below.refl w5.heap.size w5).drew.trans (hb7.mono (Nat.le_refl _))).mono hb5'.out.size)).mono hF'.out.be.size)⟩
          · intro a W ha hR
            exact ⟨ha, hR⟩
      · have s0 := hF.sy.cell 4
        have s1 := hF.sy.cell 5
        have s2 := hF.sy.cell 6
        have s3 := hF.sy.cell 7
        unfold sayCells at s0 s1 s2 s3
        have hF' := Lib.hid hF
        have hnew := Has.new wr 182 #[.int .i64 4, .int .i64 2, .func (.func 167) #[] #[], .func (.func 166) #[] #[]]
        have hb5 : Below wr.heap.size wr (wr.alloc (.cells #[.int .i64 4, .int .i64 2, .func (.func 167) #[] #[], .func (.func 166) #[] #[]] 182)) := (Below.refl _ _).alloc (Nat.le_refl _) _
        obtain ⟨w5, hw5⟩ : ∃ w5, wr.alloc (.cells #[.int .i64 4, .int .i64 2, .func (.func 167) #[] #[], .func (.func 166) #[] #[]] 182) = w5 := ⟨_, rfl⟩
        rw [hw5] at hnew hb5
        have hall5 := Lib.hid (fun W (hb : Below w5.heap.size w5 W) => show W.cell? ⟨wr.heap.size, 1, none⟩ = some (.int .i64 2) ∧ W.cell? ⟨wr.heap.size, 2, none⟩ = some (.func (.func 167) #[] #[]) from ⟨(hnew.below hb hnew.lt).cell 1, (hnew.below hb hnew.lt).cell 2⟩)
        have htx := Lib.hid (fun W (hb : Below w5.heap.size w5 W) => text2_any (w.heap.size + 1) e (.slice none 0 0) W ((hF.fr.below hb5 hF.fr.lt).below hb (Nat.lt_of_lt_of_le hF.fr.lt hb5.size)))
        have hb05 := Lib.hid (hF.be.trans (hb5.mono hF.be.size))
        have hcl0 := fun W (hb : Below w5.heap.size w5 W) => clean_any e.2.1 2 W (by omega) (by omega) (hT'.out.below (hb05.out.trans (hb.mono hb05.out.size))) (hS'.out.below (hb05.out.trans (hb.mono hb05.out.size)))
        have hb5' := Lib.hid hb5
        clear hb5 hnew hF
        by_cases hcb : cleanB e.2.1 2 = true
        · have hcl := Lib.hid (fun W (hb : Below w5.heap.size w5 W) => (hcl0 W hb).mono (R' := fun r w' => r = .returned (.tuple #[]) ∧ Below W.heap.size W w') (fun r w' h => ⟨by rcases h.1 with h | h; exact h.2; (have := h.1; rw [hcb] at this; cases this), h.2⟩))
          have hcb' := Lib.hid hcb
          clear hcl0 hcb
          go_upto_region 6 with fail
          try rw [hw5]
          clear hw5
          go_region_held3 (fun W => W.cell? ⟨wr.heap.size, 1, none⟩ = some (.int .i64 2) ∧ W.cell? ⟨wr.heap.size, 2, none⟩ = some (.func (.func 167) #[] #[]))
            (first
            | (with_reducible exact hall5.out _ (Below.refl _ _).drew)
            | (with_reducible exact hall5.out _ hd7.out)
            | fail)
            (first
            | (go_at_call 167; (with_reducible refine Calls.mono (htx.out _ (Below.refl _ _).drew) ?_); rintro r w6 ⟨rfl, rfl⟩)
            | (go_at_call 132; (with_reducible refine Calls.mono (hcl.out _ (Below.refl _ _).drew) ?_); rintro r w7 ⟨rfl, hb7⟩; have hd7 := Lib.hid ((Below.refl w5.heap.size w5).drew.trans (hb7.mono (Nat.le_refl _))); clear hb7)
            | fail)
          go_wp2
          have hbr := hb5'.out.trans (hd7.out.mono hb5'.out.size)
          have hcb := hcb'.out
          have hF := hF'.out
          exact ⟨⟨2, by go_num, by omega, fun h => hF.c1 (by omega), fun _ => hcb, fun h => by omega, hF.fr.below hbr hF.fr.lt, hF.sy.below hbr hF.sy.lt, hF.be.trans (hbr.mono hF.be.size)⟩, by simp [intOf]⟩
        · have hcb : cleanB e.2.1 2 = false := by simpa using hcb
          have hcl := Lib.hid (fun W (hb : Below w5.heap.size w5 W) => (hcl0 W hb).mono (R' := fun r w' => r = refuseE 2 ∧ Below W.heap.size W w') (fun r w' h => ⟨by rcases h.1 with h | h; (have := h.1; rw [hcb] at this; cases this); exact h.2, h.2⟩))
          have hbad := Lib.hid (show rightE e = false from by unfold rightE; rw [hcb]; simp)
          clear hcl0 hcb
          go_upto_region 6 with fail
          try rw [hw5]
          clear hw5
          obtain ⟨i1, i2⟩ := hall5.out _ (Below.refl _ _).drew
          refine say_no 6 (w.heap.size + 1) wr.heap.size 167 (.string ⟨(e.2.1).toArray⟩) 2 w5 (fun r w' => FramedR e w r w') (enters_of Tryd.func167 (by kernel_rfl) rfl) i2 i1 (htx.out _ (Below.refl _ _).drew) ((hcl.out _ (Below.refl _ _).drew).mono ?_) ?_
          · rintro r w7 ⟨rfl, hb7⟩
            exact ⟨rfl, .inr ⟨hbad.out, rfl⟩, hF'.out.be.trans ((hb5'.out.trans (((Below.refl w5.heap.size w5).drew.trans (hb7.mono (Nat.le_refl _))).mono hb5'.out.size)).mono hF'.out.be.size)⟩
          · intro a W ha hR
            exact ⟨ha, hR⟩
      · have s0 := hF.sy.cell 8
        have s1 := hF.sy.cell 9
        have s2 := hF.sy.cell 10
        have s3 := hF.sy.cell 11
        unfold sayCells at s0 s1 s2 s3
        have hF' := Lib.hid hF
        have hnew := Has.new wr 182 #[.int .i64 3, .int .i64 1, .func (.func 168) #[] #[], .func (.func 169) #[] #[]]
        have hb5 : Below wr.heap.size wr (wr.alloc (.cells #[.int .i64 3, .int .i64 1, .func (.func 168) #[] #[], .func (.func 169) #[] #[]] 182)) := (Below.refl _ _).alloc (Nat.le_refl _) _
        obtain ⟨w5, hw5⟩ : ∃ w5, wr.alloc (.cells #[.int .i64 3, .int .i64 1, .func (.func 168) #[] #[], .func (.func 169) #[] #[]] 182) = w5 := ⟨_, rfl⟩
        rw [hw5] at hnew hb5
        have hall5 := Lib.hid (fun W (hb : Below w5.heap.size w5 W) => show W.cell? ⟨wr.heap.size, 1, none⟩ = some (.int .i64 1) ∧ W.cell? ⟨wr.heap.size, 2, none⟩ = some (.func (.func 168) #[] #[]) from ⟨(hnew.below hb hnew.lt).cell 1, (hnew.below hb hnew.lt).cell 2⟩)
        have htx := Lib.hid (fun W (hb : Below w5.heap.size w5 W) => text3_any (w.heap.size + 1) e (.slice none 0 0) W ((hF.fr.below hb5 hF.fr.lt).below hb (Nat.lt_of_lt_of_le hF.fr.lt hb5.size)))
        have hb05 := Lib.hid (hF.be.trans (hb5.mono hF.be.size))
        have hcl0 := fun W (hb : Below w5.heap.size w5 W) => clean_any e.2.2 1 W (by omega) (by omega) (hT'.out.below (hb05.out.trans (hb.mono hb05.out.size))) (hS'.out.below (hb05.out.trans (hb.mono hb05.out.size)))
        have hb5' := Lib.hid hb5
        clear hb5 hnew hF
        by_cases hcb : cleanB e.2.2 1 = true
        · have hcl := Lib.hid (fun W (hb : Below w5.heap.size w5 W) => (hcl0 W hb).mono (R' := fun r w' => r = .returned (.tuple #[]) ∧ Below W.heap.size W w') (fun r w' h => ⟨by rcases h.1 with h | h; exact h.2; (have := h.1; rw [hcb] at this; cases this), h.2⟩))
          have hcb' := Lib.hid hcb
          clear hcl0 hcb
          go_upto_region 6 with fail
          try rw [hw5]
          clear hw5
          go_region_held3 (fun W => W.cell? ⟨wr.heap.size, 1, none⟩ = some (.int .i64 1) ∧ W.cell? ⟨wr.heap.size, 2, none⟩ = some (.func (.func 168) #[] #[]))
            (first
            | (with_reducible exact hall5.out _ (Below.refl _ _).drew)
            | (with_reducible exact hall5.out _ hd7.out)
            | fail)
            (first
            | (go_at_call 168; (with_reducible refine Calls.mono (htx.out _ (Below.refl _ _).drew) ?_); rintro r w6 ⟨rfl, rfl⟩)
            | (go_at_call 132; (with_reducible refine Calls.mono (hcl.out _ (Below.refl _ _).drew) ?_); rintro r w7 ⟨rfl, hb7⟩; have hd7 := Lib.hid ((Below.refl w5.heap.size w5).drew.trans (hb7.mono (Nat.le_refl _))); clear hb7)
            | fail)
          go_wp2
          have hbr := hb5'.out.trans (hd7.out.mono hb5'.out.size)
          have hcb := hcb'.out
          have hF := hF'.out
          exact ⟨⟨3, by go_num, by omega, fun h => hF.c1 (by omega), fun h => hF.c2 (by omega), fun _ => hcb, hF.fr.below hbr hF.fr.lt, hF.sy.below hbr hF.sy.lt, hF.be.trans (hbr.mono hF.be.size)⟩, by simp [intOf]⟩
        · have hcb : cleanB e.2.2 1 = false := by simpa using hcb
          have hcl := Lib.hid (fun W (hb : Below w5.heap.size w5 W) => (hcl0 W hb).mono (R' := fun r w' => r = refuseE 2 ∧ Below W.heap.size W w') (fun r w' h => ⟨by rcases h.1 with h | h; (have := h.1; rw [hcb] at this; cases this); exact h.2, h.2⟩))
          have hbad := Lib.hid (show rightE e = false from by unfold rightE; rw [hcb]; simp)
          clear hcl0 hcb
          go_upto_region 6 with fail
          try rw [hw5]
          clear hw5
          obtain ⟨i1, i2⟩ := hall5.out _ (Below.refl _ _).drew
          refine say_no 6 (w.heap.size + 1) wr.heap.size 168 (.string ⟨(e.2.2).toArray⟩) 1 w5 (fun r w' => FramedR e w r w') (enters_of Tryd.func168 (by kernel_rfl) rfl) i2 i1 (htx.out _ (Below.refl _ _).drew) ((hcl.out _ (Below.refl _ _).drew).mono ?_) ?_
          · rintro r w7 ⟨rfl, hb7⟩
            exact ⟨rfl, .inr ⟨hbad.out, rfl⟩, hF'.out.be.trans ((hb5'.out.trans (((Below.refl w5.heap.size w5).drew.trans (hb7.mono (Nat.le_refl _))).mono hb5'.out.size)).mono hF'.out.be.size)⟩
          · intro a W ha hR
            exact ⟨ha, hR⟩
  · have hmfN := Lib.hid (fun k c W hk => (hmf.out k c W hk).mono (R' := fun r w' => r = .panicked [{ v := refuseV 2, recovered := false }] ∧ w' = W) (fun r w' h => ⟨by rcases h.1 with h | h; exact absurd h.1 (by omega); exact h.2, h.2⟩))
    clear hmf
    go_upto_region 2 with fail
    rw [show (w.alloc (.cells #[.string ⟨e.1.toArray⟩, .string ⟨e.2.1.toArray⟩, .string ⟨e.2.2.toArray⟩] 53)).alloc (.cells #[.string ⟨e.1.toArray⟩, .string ⟨e.2.1.toArray⟩, .string ⟨e.2.2.toArray⟩, .slice none 0 0] 175) = w2 from hw2]
    clear hw2
    obtain ⟨i0, i1, i2⟩ := hall.out _ (Below.refl _ _).drew
    have hno := Lib.hid (show rightE e = false from by unfold rightE fitsE; rw [decide_eq_false hfit]; rfl)
    have hb9 := Lib.hid (hb2.out.trans (((Below.refl w2.heap.size w2).alloc (Nat.le_refl _) (.cells #[.string ⟨e.1.toArray⟩, .string ⟨e.2.1.toArray⟩, .string ⟨e.2.2.toArray⟩] 9)).drew.mono hb2.out.size))
    refine wp_region_still_tail 15 (by kernel_rfl) (by kernel_rfl) ?_
    simp only [List.take_succ_cons, List.take_zero, List.drop_succ_cons, List.drop_zero]
    change wpStill _ _ w2.drew _ _ _
    repeat still_step
    try refine wpStill_nil ?_
    go_wp2_with (go_at_call 131; (with_reducible refine Calls.mono (hmfN.out _ _ _ hnw.out) ?_); rintro r w3 ⟨rfl, rfl⟩)
    exact ⟨rfl, .inr ⟨hno.out, rfl⟩, hb9.out⟩
end Go.Proofs.YtlbiniibkbhghaaDoor
