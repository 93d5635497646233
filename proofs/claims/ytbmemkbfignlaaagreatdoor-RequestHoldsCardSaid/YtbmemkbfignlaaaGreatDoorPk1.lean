import Derived.Test.YtbmemkbfignlaaaGreatDoorRows
import Derived.WalkKit
import Derived.ProofKit
import Derived.OpenShut
import Derived.Shelf.Abstract
import Derived.RangeFuncNested
import Derived.RangeFuncBox
import Derived.OwnWalkIn
import Derived.Lib.Hide
import Derived.Deep.Draws
import Derived.Deep.QuietTactic
import Derived.Laws.CopyOwn
import Derived.Laws.IdiomStrings
import Derived.Laws.BytesArg
namespace Go.Proofs.YtbmemkbfignlaaaGreatDoor
open Go.ChangeShapes Go.WideShapes Go.ChangeAt Go.RowKit

/-! ## What every law's row wants at its end -/
theorem own : ownKnob Tryz.prog.godebug = none := by kernel_rfl
theorem laidOut : laidOutB Tryz.prog = true := by kernel_rfl

section
variable {H : Type} {enc : TypeId × Value → H}
/-- Nothing of what lay has turned: every argument reads as it did. -/
theorem trodAll_behind {W W' : World} (hb : Below W.heap.size W W') : ∀ {ts : List TypeId} {vs : List Value} {ds : List (DataW H)} {ps : List MemPlace}, (∀ t ∈ ts, Tryz.prog.readableRec t = true ∧ t < Tryz.prog.types.size) →
    DataW.TrodAll enc Tryz.prog W 0 (fun _ => true) true ts vs ds ps → (∀ x ∈ ps, x.block < W.heap.size) → DataW.TrodAll enc Tryz.prog W' 0 (fun b => decide (b < W.heap.size)) true ts vs ds ps
  | [], [], [], _, _, h, _ => h
  | [], _ :: _, _, _, _, h, _ => h.elim
  | [], [], _ :: _, _, _, h, _ => h.elim
  | _ :: _, [], _, _, _, h, _ => h.elim
  | _ :: _, _ :: _, [], _, _, h, _ => h.elim
  | t :: ts, v :: vs, d :: ds, ps, ht, h, hl => by
    obtain ⟨p, q, h1, h2, rfl⟩ := h
    exact ⟨p, q, Below.trod laidOut (ht t List.mem_cons_self).1 (ht t List.mem_cons_self).2 h1 hb (fun x hx => hl x (List.mem_append_left _ hx)), trodAll_behind hb (fun t' h' => ht t' (List.mem_cons_of_mem _ h')) h2 (fun x hx => hl x (List.mem_append_right _ hx)), rfl⟩

/-- A law's end: true; every argument reads as it did. -/
theorem law_post {f : Func} {s : ChangeSpec} {W W' : World} {args : Array Value} {ds : List (DataW H)} {before : List MemPlace} (hv : s.vars = []) (hr : f.resultTypes = #[4])
    (hts : ∀ t ∈ f.params.toList, Tryz.prog.readableRec t = true ∧ t < Tryz.prog.types.size)
    (hW : DataW.Whole enc Tryz.prog f.params.toList s.vars false W args.toList ds [] before) (hb : Below W.heap.size W W')
    (hs : (s.fn H (ds ++ [])).results = [.lit (.bool true)] ∧ (s.fn H (ds ++ [])).args = ds ∧ (s.fn H (ds ++ [])).vars = []) :
    s.post enc Tryz.prog f false true false false W args (.bool true) W' := by
  have hlt := hW.lt
  have hW' := hW
  obtain ⟨p, q, hA, hV, rfl, _, _⟩ := hW
  refine ⟨ds, [], _, [], p, [], hW', ?_, ?_, ?_, hb.frame _, fun h => by cases h⟩
  · rw [hs.1, hr]; exact trodAll_mk1 (shut_bool Tryz.underlying4 _)
  · rw [hs.2.1]; exact trodAll_behind hb hts hA (fun x hx => hlt x (List.mem_append_left _ hx))
  · rw [hs.2.2, hv]; rfl
end

end Go.Proofs.YtbmemkbfignlaaaGreatDoor

namespace Go.Proofs.YtbmemkbfignlaaaGreatDoor

/-! ## The mathematics of targets -/
/-- What a sign is worth as a hex digit; 16: nothing. -/
def hexN (c : UInt8) : Nat := if 48 ≤ c.toNat ∧ c.toNat ≤ 57 then c.toNat - 48 else if 97 ≤ c.toNat ∧ c.toNat ≤ 102 then c.toNat - 87 else if 65 ≤ c.toNat ∧ c.toNat ≤ 70 then c.toNat - 55 else 16
/-- A digit of great letters. -/
def hexG (d : Nat) : UInt8 := if d < 10 then UInt8.ofNat (48 + d) else UInt8.ofNat (55 + d)
/-- A text, decoded; none: it is wrong. -/
def decL (plus : Bool) : List UInt8 → Option (List UInt8)
  | [] => some []
  | 37 :: a :: b :: r => if 15 < hexN a ∨ 15 < hexN b then none else (decL plus r).map (UInt8.ofNat (16 * hexN a + hexN b) :: ·)
  | c :: r => if c = 37 then none else (decL plus r).map ((if plus = true ∧ c = 43 then 32 else c) :: ·)
def plainB (c : UInt8) : Bool := decide ((97 ≤ c.toNat ∧ c.toNat ≤ 122) ∨ (65 ≤ c.toNat ∧ c.toNat ≤ 90) ∨ (48 ≤ c.toNat ∧ c.toNat ≤ 57) ∨ c = 45 ∨ c = 46 ∨ c = 95 ∨ c = 126)
def encB (c : UInt8) : List UInt8 := if plainB c = true then [c] else [37, hexG (c.toNat / 16), hexG (c.toNat % 16)]
def encL (l : List UInt8) : List UInt8 := l.flatMap encB
theorem decL_pct (plus : Bool) (a b : UInt8) (r : List UInt8) : decL plus (37 :: a :: b :: r) = if 15 < hexN a ∨ 15 < hexN b then none else (decL plus r).map (UInt8.ofNat (16 * hexN a + hexN b) :: ·) := by
  rw [decL]
theorem decL_other (plus : Bool) {c : UInt8} (r : List UInt8) (h : c ≠ 37) : decL plus (c :: r) = (decL plus r).map ((if plus = true ∧ c = 43 then 32 else c) :: ·) := by
  rw [decL]
  · rw [if_neg h]
  · intro a b r' he
    exact absurd he h
theorem decL_short (plus : Bool) {r : List UInt8} (h : r.length < 2) : decL plus (37 :: r) = none := by
  match r, h with
  | [], _ => rfl
  | [_], _ => rfl
theorem hexG_worth : ∀ d : Fin 16, hexN (hexG d.1) = d.1 := by decide
theorem hexG_worth' {d : Nat} (h : d < 16) : hexN (hexG d) = d := hexG_worth ⟨d, h⟩
theorem plain_not (c : UInt8) (h : plainB c = true) : c ≠ 37 ∧ c ≠ 43 := by
  constructor <;> (rintro rfl; revert h; decide)
/-- What Encode writes is decoded again. -/
theorem dec_enc (plus : Bool) : ∀ l : List UInt8, decL plus (encL l) = some l
  | [] => rfl
  | c :: r => by
    have ih := dec_enc plus r
    show decL plus (encB c ++ encL r) = _
    unfold encB
    by_cases h : plainB c = true
    · rw [if_pos h]
      obtain ⟨h1, h2⟩ := plain_not c h
      show decL plus (c :: encL r) = _
      rw [decL_other plus _ h1, ih, if_neg (fun e => h2 e.2)]
      rfl
    · rw [if_neg h]
      show decL plus (37 :: hexG (c.toNat / 16) :: hexG (c.toNat % 16) :: encL r) = _
      have hc := c.toNat_lt
      have d1 : hexN (hexG (c.toNat / 16)) = c.toNat / 16 := hexG_worth' (by omega)
      have d2 : hexN (hexG (c.toNat % 16)) = c.toNat % 16 := hexG_worth' (by omega)
      rw [decL_pct, d1, d2, if_neg (by omega), ih]
      have : 16 * (c.toNat / 16) + c.toNat % 16 = c.toNat := by omega
      rw [this]
      simp
/-- Which bytes Encode writes. -/
def wrote (c : UInt8) : Bool := plainB c || c == 37
theorem hexG_plain : ∀ d : Fin 16, plainB (hexG d.1) = true := by decide
theorem enc_wrote {l : List UInt8} : ∀ c ∈ encL l, wrote c = true := by
  intro c hc
  obtain ⟨x, _, hx⟩ := List.mem_flatMap.1 hc
  unfold encB at hx
  have hl := x.toNat_lt
  split at hx
  · rename_i h
    obtain rfl : c = x := by simpa using hx
    unfold wrote
    rw [h]; rfl
  · simp only [List.mem_cons, List.not_mem_nil, or_false] at hx
    rcases hx with rfl | rfl | rfl
    · rfl
    · unfold wrote
      rw [hexG_plain ⟨x.toNat / 16, by omega⟩]; rfl
    · unfold wrote
      rw [hexG_plain ⟨x.toNat % 16, by omega⟩]; rfl
theorem wrote_all : ∀ n : Fin 256, wrote (UInt8.ofNat n.1) = true → 33 ≤ (UInt8.ofNat n.1).toNat ∧ (UInt8.ofNat n.1).toNat ≤ 126 ∧ UInt8.ofNat n.1 ≠ 35 ∧ UInt8.ofNat n.1 ≠ 47 ∧ UInt8.ofNat n.1 ≠ 63 ∧ UInt8.ofNat n.1 ≠ 38 ∧ UInt8.ofNat n.1 ≠ 61 := by decide +kernel
theorem wrote_not (c : UInt8) (h : wrote c = true) : 33 ≤ c.toNat ∧ c.toNat ≤ 126 ∧ c ≠ 35 ∧ c ≠ 47 ∧ c ≠ 63 ∧ c ≠ 38 ∧ c ≠ 61 := by
  have := wrote_all ⟨c.toNat, c.toNat_lt⟩
  simp only [UInt8.ofNat_toNat] at this
  exact this h
theorem enc_not {l : List UInt8} {c : UInt8} (h : c = 47 ∨ c = 63 ∨ c = 38 ∨ c = 61) : c ∉ encL l := fun hc => by
  obtain ⟨_, _, _, h1, h2, h3, h4⟩ := wrote_not c (enc_wrote c hc)
  rcases h with h | h | h | h <;> contradiction
/-- What stands between bytes of a kind. -/
def betw (k : UInt8) : List UInt8 → List (List UInt8)
  | [] => [[]]
  | c :: r => if c = k then [] :: betw k r else match betw k r with
    | [] => [[c]]
    | h :: t => (c :: h) :: t
theorem betw_ne (k : UInt8) : ∀ l : List UInt8, betw k l ≠ []
  | [] => by simp [betw]
  | c :: r => by
    unfold betw
    split
    · simp
    · split <;> simp
theorem betw_no {k : UInt8} : ∀ {a : List UInt8}, k ∉ a → betw k a = [a]
  | [], _ => rfl
  | c :: r, h => by
    have hr := betw_no (a := r) (fun hm => h (List.mem_cons_of_mem _ hm))
    unfold betw
    rw [if_neg (fun e => h (by rw [e]; exact List.mem_cons_self)), hr]
theorem betw_at {k : UInt8} (r : List UInt8) : ∀ {a : List UInt8}, k ∉ a → betw k (a ++ k :: r) = a :: betw k r
  | [], _ => by
    show betw k (k :: r) = _
    rw [betw, if_pos rfl]
  | c :: t, h => by
    have ht := betw_at r (a := t) (fun hm => h (List.mem_cons_of_mem _ hm))
    show betw k (c :: (t ++ k :: r)) = _
    rw [betw, if_neg (fun e => h (by rw [e]; exact List.mem_cons_self)), ht]
/-- Where a byte stands first; the length: nowhere. -/
def atL (k : UInt8) : List UInt8 → Nat
  | [] => 0
  | c :: r => if c = k then 0 else atL k r + 1
theorem atL_no {k : UInt8} : ∀ {a : List UInt8}, k ∉ a → atL k a = a.length
  | [], _ => rfl
  | c :: r, h => by
    rw [atL, if_neg (fun e => h (by rw [e]; exact List.mem_cons_self)), atL_no (a := r) (fun hm => h (List.mem_cons_of_mem _ hm)), List.length_cons]
theorem atL_at {k : UInt8} (r : List UInt8) : ∀ {a : List UInt8}, k ∉ a → atL k (a ++ k :: r) = a.length
  | [], _ => by
    show atL k (k :: r) = _
    rw [atL, if_pos rfl]; rfl
  | c :: t, h => by
    show atL k (c :: (t ++ k :: r)) = _
    rw [atL, if_neg (fun e => h (by rw [e]; exact List.mem_cons_self)), atL_at r (a := t) (fun hm => h (List.mem_cons_of_mem _ hm)), List.length_cons]
theorem atL_le (k : UInt8) : ∀ l : List UInt8, atL k l ≤ l.length
  | [] => Nat.le_refl _
  | c :: r => by
    have := atL_le k r
    unfold atL
    split
    · exact Nat.zero_le _
    · rw [List.length_cons]; omega
/-- May a part be? -/
def partB (l : List UInt8) : Bool := decide (l ≠ [46]) && decide (l ≠ [46, 46]) && l.all fun c => decide (c ≠ 47) && decide (c ≠ 0)
abbrev PairL := List UInt8 × List UInt8
abbrev TgL := List (List UInt8) × List PairL
def pairL (s : List UInt8) : Option PairL := match decL true (s.take (atL 61 s)), decL true (s.drop (atL 61 s + 1)) with
  | some k, some v => some (k, v)
  | _, _ => none
def partL (s : List UInt8) : Option (List UInt8) := match decL false s with
  | some p => if partB p = true then some p else none
  | none => none
/-- All, or none. -/
def allL {α β : Type} (f : α → Option β) : List α → Option (List β)
  | [] => some []
  | x :: r => match f x, allL f r with
    | some y, some l => some (y :: l)
    | _, _ => none
def okB (c : UInt8) : Bool := decide (33 ≤ c.toNat) && decide (c.toNat ≤ 126) && decide (c ≠ 35)
def parseTg (s : List UInt8) : Option TgL :=
  if s.head? = some 47 ∧ s.all okB = true then
    match allL partL (betw 47 ((s.take (atL 63 s)).drop 1)), allL pairL ((betw 38 (s.drop (atL 63 s + 1))).filter fun q => decide (q ≠ [])) with
    | some p, some q => some (p, q)
    | _, _ => none
  else none
def rightTg (t : TgL) : Bool := decide (t.1 ≠ []) && t.1.all partB
def pathTx (p : List (List UInt8)) : List UInt8 := p.flatMap fun x => 47 :: encL x
def pairTx (q : PairL) : List UInt8 := encL q.1 ++ 61 :: encL q.2
def queryTx : List PairL → List UInt8
  | [] => []
  | q :: r => 63 :: (pairTx q ++ r.flatMap fun x => 38 :: pairTx x)
def textTg (t : TgL) : List UInt8 := pathTx t.1 ++ queryTx t.2
theorem partL_enc {p : List UInt8} (h : partB p = true) : partL (encL p) = some p := by
  unfold partL
  rw [dec_enc]
  simp [h]
theorem pairL_tx (q : PairL) : pairL (pairTx q) = some q := by
  unfold pairL pairTx
  rw [atL_at _ (enc_not (.inr (.inr (.inr rfl)))), List.take_left' rfl, show (encL q.1 ++ 61 :: encL q.2).drop ((encL q.1).length + 1) = encL q.2 from by rw [← List.drop_drop, List.drop_left' rfl]; rfl, dec_enc, dec_enc]
theorem pathTx_betw : ∀ (p : List (List UInt8)), p ≠ [] → betw 47 ((pathTx p).drop 1) = p.map encL
  | [], h => absurd rfl h
  | [x], _ => by
    show betw 47 (encL x ++ []) = _
    rw [List.append_nil, betw_no (enc_not (.inl rfl))]
    rfl
  | x :: y :: r, _ => by
    have ih := pathTx_betw (y :: r) (by simp)
    show betw 47 (encL x ++ pathTx (y :: r)) = _
    have : pathTx (y :: r) = 47 :: (pathTx (y :: r)).drop 1 := rfl
    rw [this, betw_at _ (enc_not (.inl rfl)), ih]
    rfl
theorem pair_not {q : PairL} {c : UInt8} (h : c = 63 ∨ c = 38) : c ∉ pairTx q := by
  unfold pairTx
  rw [List.mem_append, List.mem_cons, not_or, not_or]
  refine ⟨enc_not (.inr (h.elim .inl (fun e => .inr (.inl e)))), ?_, enc_not (.inr (h.elim .inl (fun e => .inr (.inl e))))⟩
  rcases h with rfl | rfl <;> decide
theorem pairTx_ne (q : PairL) : pairTx q ≠ [] := by unfold pairTx; simp
theorem query_betw : ∀ (q : PairL) (r : List PairL), betw 38 (pairTx q ++ r.flatMap fun x => 38 :: pairTx x) = (q :: r).map pairTx
  | q, [] => by
    show betw 38 (pairTx q ++ []) = _
    rw [List.append_nil, betw_no (pair_not (.inr rfl))]
    rfl
  | q, x :: r => by
    have ih := query_betw x r
    show betw 38 (pairTx q ++ (38 :: pairTx x ++ r.flatMap fun x => 38 :: pairTx x)) = _
    rw [List.cons_append, betw_at _ (pair_not (.inr rfl)), ih]
    rfl
theorem allL_map {α β : Type} {f : α → Option β} {g : β → α} : ∀ {l : List β}, (∀ x ∈ l, f (g x) = some x) → allL f (l.map g) = some l
  | [], _ => rfl
  | x :: r, h => by
    have ih := allL_map (l := r) (fun y hy => h y (List.mem_cons_of_mem _ hy))
    show allL f (g x :: r.map g) = _
    unfold allL
    rw [h x List.mem_cons_self, ih]
theorem path_not (p : List (List UInt8)) : 63 ∉ pathTx p := by
  unfold pathTx
  intro h
  obtain ⟨x, _, hx⟩ := List.mem_flatMap.1 h
  rcases List.mem_cons.1 hx with hx | hx
  · revert hx; decide
  · exact enc_not (.inr (.inl rfl)) hx
theorem enc_ok {l : List UInt8} : ∀ c ∈ encL l, okB c = true := fun c hc => by
  obtain ⟨h1, h2, h3, _⟩ := wrote_not c (enc_wrote c hc)
  unfold okB
  simp [h1, h2, h3]
theorem path_ok (p : List (List UInt8)) : ∀ c ∈ pathTx p, okB c = true := fun c hc => by
  obtain ⟨x, _, hx⟩ := List.mem_flatMap.1 hc
  rcases List.mem_cons.1 hx with rfl | hx
  · decide
  · exact enc_ok c hx
theorem pair_ok (q : PairL) : ∀ c ∈ pairTx q, okB c = true := fun c hc => by
  unfold pairTx at hc
  rcases List.mem_append.1 hc with hc | hc
  · exact enc_ok c hc
  · rcases List.mem_cons.1 hc with rfl | hc
    · decide
    · exact enc_ok c hc
theorem query_ok : ∀ (q : List PairL), ∀ c ∈ queryTx q, okB c = true
  | [], c, hc => by simp [queryTx] at hc
  | q :: r, c, hc => by
    unfold queryTx at hc
    rcases List.mem_cons.1 hc with rfl | hc
    · decide
    · rcases List.mem_append.1 hc with hc | hc
      · exact pair_ok q c hc
      · obtain ⟨x, _, hx⟩ := List.mem_flatMap.1 hc
        rcases List.mem_cons.1 hx with rfl | hx
        · decide
        · exact pair_ok x c hx
/-- The stage's theorem: a target's text is that target's. -/
theorem parse_text {t : TgL} (h : rightTg t = true) : parseTg (textTg t) = some t := by
  obtain ⟨p, q⟩ := t
  unfold rightTg at h
  simp only [Bool.and_eq_true, decide_eq_true_eq, List.all_eq_true] at h
  obtain ⟨hp, ha⟩ := h
  unfold parseTg textTg
  simp only
  have hhead : (pathTx p ++ queryTx q).head? = some 47 := by
    cases p with
    | nil => exact absurd rfl hp
    | cons x r => rfl
  have hall : (pathTx p ++ queryTx q).all okB = true := by
    rw [List.all_eq_true]
    intro c hc
    rcases List.mem_append.1 hc with hc | hc
    · exact path_ok p c hc
    · exact query_ok q c hc
  rw [if_pos ⟨hhead, hall⟩]
  have hpath : allL partL (betw 47 ((pathTx p).drop 1)) = some p := by
    rw [pathTx_betw p hp]
    exact allL_map (fun x hx => partL_enc (ha x hx))
  cases q with
  | nil =>
    show (match allL partL (betw 47 (((pathTx p ++ []).take (atL 63 (pathTx p ++ []))).drop 1)), allL pairL ((betw 38 ((pathTx p ++ []).drop (atL 63 (pathTx p ++ []) + 1))).filter fun q => decide (q ≠ [])) with
      | some p, some q => some (p, q)
      | _, _ => none) = _
    rw [List.append_nil, atL_no (path_not p), List.take_length, hpath, List.drop_of_length_le (by omega)]
    rfl
  | cons x r =>
    show (match allL partL (betw 47 (((pathTx p ++ 63 :: (pairTx x ++ r.flatMap fun x => 38 :: pairTx x)).take (atL 63 (pathTx p ++ 63 :: (pairTx x ++ r.flatMap fun x => 38 :: pairTx x)))).drop 1)), allL pairL ((betw 38 ((pathTx p ++ 63 :: (pairTx x ++ r.flatMap fun x => 38 :: pairTx x)).drop (atL 63 (pathTx p ++ 63 :: (pairTx x ++ r.flatMap fun x => 38 :: pairTx x)) + 1))).filter fun q => decide (q ≠ [])) with
      | some p, some q => some (p, q)
      | _, _ => none) = _
    rw [atL_at _ (path_not p), List.take_left' rfl, hpath, ← List.drop_drop, List.drop_left' rfl]
    show (match some p, allL pairL ((betw 38 (pairTx x ++ r.flatMap fun x => 38 :: pairTx x)).filter fun q => decide (q ≠ [])) with
      | some p, some q => some (p, q)
      | _, _ => none) = _
    rw [query_betw, List.filter_eq_self.2 (fun y hy => by obtain ⟨z, _, rfl⟩ := List.mem_map.1 hy; exact decide_eq_true (pairTx_ne z)), allL_map (fun y _ => pairL_tx y)]
/-- What is taken may be written. -/
theorem allL_mem {α β : Type} {f : α → Option β} : ∀ {l : List α} {m : List β}, allL f l = some m → ∀ y ∈ m, ∃ x ∈ l, f x = some y
  | [], m, h, y, hy => by
    obtain rfl : [] = m := Option.some.inj h
    simp at hy
  | x :: r, m, h, y, hy => by
    unfold allL at h
    cases hx : f x with
    | none => rw [hx] at h; simp at h
    | some z =>
      cases hr : allL f r with
      | none => rw [hx, hr] at h; simp at h
      | some m' =>
        rw [hx, hr] at h
        obtain rfl := Option.some.inj h
        rcases List.mem_cons.1 hy with rfl | hy
        · exact ⟨x, List.mem_cons_self, hx⟩
        · obtain ⟨x', h1, h2⟩ := allL_mem hr y hy
          exact ⟨x', List.mem_cons_of_mem _ h1, h2⟩
theorem allL_len {α β : Type} {f : α → Option β} : ∀ {l : List α} {m : List β}, allL f l = some m → m.length = l.length
  | [], m, h => by
    obtain rfl : [] = m := Option.some.inj h
    rfl
  | x :: r, m, h => by
    unfold allL at h
    cases hx : f x with
    | none => rw [hx] at h; simp at h
    | some z =>
      cases hr : allL f r with
      | none => rw [hx, hr] at h; simp at h
      | some m' =>
        rw [hx, hr] at h
        obtain rfl := Option.some.inj h
        rw [List.length_cons, List.length_cons, allL_len hr]
theorem parse_right {s : List UInt8} {t : TgL} (h : parseTg s = some t) : rightTg t = true := by
  unfold parseTg at h
  split at h
  · cases hp : allL partL (betw 47 ((s.take (atL 63 s)).drop 1)) with
    | none => rw [hp] at h; simp at h
    | some p =>
      cases hq : allL pairL ((betw 38 (s.drop (atL 63 s + 1))).filter fun q => decide (q ≠ [])) with
      | none => rw [hp, hq] at h; simp at h
      | some q =>
        rw [hp, hq] at h
        obtain rfl := Option.some.inj h
        unfold rightTg
        simp only [Bool.and_eq_true, decide_eq_true_eq, List.all_eq_true]
        refine ⟨fun e => ?_, fun y hy => ?_⟩
        · have := allL_len hp
          rw [e] at this
          exact betw_ne _ _ (List.length_eq_zero_iff.1 this.symm)
        · obtain ⟨x, _, hx⟩ := allL_mem hp y hy
          unfold partL at hx
          split at hx
          · split at hx
            · obtain rfl := Option.some.inj hx; assumption
            · cases hx
          · cases hx
  · cases h
end Go.Proofs.YtbmemkbfignlaaaGreatDoor

namespace Go.Proofs.YtbmemkbfignlaaaGreatDoor
open Go.RowKit

/-! ## Small words that every layer's walks use -/

/-- A block of plain cells, known whole. -/
def Has (W : World) (k : Nat) (t : TypeId) (cs : Array Value) : Prop := W.heap[k]? = some (.cells cs t (0, 0))
theorem Has.lt {W : World} {k : Nat} {t : TypeId} {cs : Array Value} (h : Has W k t cs) : k < W.heap.size := (Array.getElem?_eq_some_iff.1 h).1
theorem Has.cell {W : World} {k : Nat} {t : TypeId} {cs : Array Value} (h : Has W k t cs) (i : Nat) : W.cell? ⟨k, i, none⟩ = cs[i]? := cell_of_row W k i cs t (0, 0) h
theorem Has.free {W : World} {k : Nat} {t : TypeId} {cs : Array Value} (h : Has W k t cs) (i : Nat) : W.frozen? ⟨k, i, none⟩ = false := by
  have h' : W.heap[k]? = some (.cells cs t (0, 0)) := h
  simp [World.frozen?, h']
theorem Has.new (W : World) (t : TypeId) (cs : Array Value) : Has (W.alloc (.cells cs t)) W.heap.size t cs := World.alloc_heap_new W _
theorem Has.alloc {W : World} {k : Nat} {t : TypeId} {cs : Array Value} (h : Has W k t cs) (o : Obj) : Has (W.alloc o) k t cs := (Below.heap_alloc W o k h.lt).trans h
theorem Has.drew {W : World} {k : Nat} {t : TypeId} {cs : Array Value} (h : Has W k t cs) : Has W.drew k t cs := h
theorem Has.put {W : World} {k : Nat} {t : TypeId} {cs : Array Value} (h : Has W k t cs) (i : Nat) (u : Value) : Has (W.setCell ⟨k, i, none⟩ u) k t (cs.setIfInBounds i u) := by
  unfold Has at h ⊢
  simp [World.setCell, Array.getElem?_modify, h]
theorem Has.other {W : World} {k : Nat} {t : TypeId} {cs : Array Value} (h : Has W k t cs) {j i : Nat} (hne : k ≠ j) (u : Value) : Has (W.setCell ⟨j, i, none⟩ u) k t cs := (Below.heap_setCell W ⟨j, i, none⟩ u k hne).trans h
theorem Has.below {W W' : World} {B k : Nat} {t : TypeId} {cs : Array Value} (h : Has W k t cs) (hb : Below B W W') (hk : k < B) : Has W' k t cs := (hb.block k hk).trans h

theorem Has.drewN {W : World} {k : Nat} {t : TypeId} {cs : Array Value} (h : Has W k t cs) (q : Nat) : Has (W.drewN q) k t cs := h
theorem others_drewN (W : World) (q : Nat) : KeepsOthers W (W.drewN q) := ⟨Nat.le_refl _, fun _ _ h _ => h⟩
theorem below_draws {B : Nat} {a w : World} (h : Below B a w) (q : Nat) : Below B a (w.drewN q) := ⟨h.os, h.tape, h.output, h.size, h.block⟩
theorem below_on {a b c : World} (h : Below a.heap.size a b) (k : Below b.heap.size b c) : Below a.heap.size a c := h.trans (k.mono h.size)
theorem others_below {W W' : World} (h : Below W.heap.size W W') : KeepsOthers W W' := ⟨h.size, fun k _ hk _ => (h.block k (Array.getElem?_eq_some_iff.1 hk).1).trans hk⟩

/-- What a sequence of bytes with their places tells. -/
def encPair (x : Nat × UInt8) : Array Value := #[.int .i64 (x.1 : Int), .int .u8 (x.2.toNat : Int)]

/-- These blocks are as they were. -/
def Kept (S : Nat → Prop) (W W' : World) : Prop := ∀ k, S k → W'.heap[k]? = W.heap[k]?
theorem Kept.refl (S : Nat → Prop) (W : World) : Kept S W W := fun _ _ => rfl
theorem Kept.trans {S : Nat → Prop} {A B C : World} (h : Kept S A B) (k : Kept S B C) : Kept S A C := fun j hj => (k j hj).trans (h j hj)
theorem kept_b {S : Nat → Prop} {w : World} (hS : ∀ k, S k → k < w.heap.size) (W : World) (l : Nat) (o o' : Obj) (hl : w.heap.size ≤ l) (_ : W.heap[l]? = some o) (_ : o.isCells = false) (_ : o.isWalk = false) : Kept S W (W.putObj l o') :=
  fun k hk => World.putObj_heap_other (by have := hS k hk; omega)
theorem Kept.draws {S : Nat → Prop} {A B : World} (h : Kept S A B) (q : Nat) : Kept S A (B.drewN q) := h
theorem Kept.setCell {S : Nat → Prop} {A B : World} (h : Kept S A B) {p : Addr} (hp : ¬ S p.block) (u : Value) : Kept S A (B.setCell p u) :=
  fun k hk => (Below.heap_setCell B p u k (fun e => hp (e ▸ hk))).trans (h k hk)
theorem Kept.below {S : Nat → Prop} {A B : World} {n : Nat} (h : Below n A B) (hS : ∀ k, S k → k < n) : Kept S A B := fun k hk => h.block k (hS k hk)
theorem Kept.has {S : Nat → Prop} {W W' : World} {k : Nat} {t : TypeId} {cs : Array Value} (h : Kept S W W') (hk : S k) (hh : Has W k t cs) : Has W' k t cs := (h k hk).trans hh

/-- What is said of one block below B stays said while other blocks from B on turn. -/
theorem has_from {β : Type} {B k : Nat} (hk : k < B) (t : TypeId) (f : β → Array Value) : OwnFrom B (fun s W => Has W k t (f s)) := fun s X Y row hs hg hr =>
  (hg.block k hs.lt (fun e => by have := (hr k e.symm).1; omega)).trans hs
end Go.Proofs.YtbmemkbfignlaaaGreatDoor

namespace Go.Proofs.YtbmemkbfignlaaaGreatDoor
open Go.RowKit

/-! ## Bytes in memory -/

/-- A byte as a value. -/
def byt (b : UInt8) : Value := .int .u8 (b.toNat : Int)
def byts (l : List UInt8) : List Value := l.map byt
theorem byts_length (l : List UInt8) : (byts l).length = l.length := by simp [byts]
theorem byts_append (a b : List UInt8) : byts (a ++ b) = byts a ++ byts b := by simp [byts]
theorem byts_take (l : List UInt8) (k : Nat) : byts (l.take k) = (byts l).take k := by simp [byts]
theorem byts_drop (l : List UInt8) (k : Nat) : byts (l.drop k) = (byts l).drop k := by simp [byts]
theorem byts_one (l : List UInt8) : ∀ v ∈ byts l, v.oneCell' = true := by
  intro v hv
  obtain ⟨b, _, rfl⟩ := List.mem_map.1 hv
  rfl
theorem byts_get {l : List UInt8} {j : Nat} {u : Value} (h : (byts l)[j]? = some u) : ∃ hj : j < l.length, u = byt l[j] := by
  have hj : j < l.length := by have := (List.getElem?_eq_some_iff.1 h).1; simpa [byts] using this
  refine ⟨hj, ?_⟩
  simp [byts, List.getElem?_eq_getElem hj] at h
  exact h.symm
theorem byts_at {l : List UInt8} {j : Nat} (hj : j < l.length) : (byts l)[j]? = some (byt l[j]) := by simp [byts, List.getElem?_eq_getElem hj]
theorem byt_inj {a b : UInt8} (h : byt a = byt b) : a = b := by
  unfold byt at h
  injection h with _ h
  exact UInt8.toNat_inj.1 (by omega)
theorem byts_splice (cs : List UInt8) (off : Nat) (x : List UInt8) : splice (byts cs) off (byts x) = byts (splice cs off x) := by simp [splice, byts]

theorem add_add_ (a : Addr) (i j : Nat) : (a.add i).add j = a.add (i + j) := by
  unfold Addr.add
  by_cases hi : i = 0 <;> by_cases hj : j = 0 <;> simp [hi, hj, Nat.add_assoc]
theorem add_block_ (a : Addr) (n : Nat) : (a.add n).block = a.block := by unfold Addr.add; split <;> rfl
theorem add_zero_ (b o k : Nat) : (⟨b, o, none⟩ : Addr).add k = ⟨b, o + k, none⟩ := by unfold Addr.add; split <;> simp_all

/-- From the address A on these bytes stand, in a block of which S holds (no byte: anywhere). -/
def Rd (W : World) (S : Nat → Prop) (A : Option Addr) (l : List UInt8) : Prop :=
  0 < l.length → ∃ ad, A = some ad ∧ S ad.block ∧ ∀ j u, (byts l)[j]? = some u → W.cell? (ad.add j) = some u
section
variable {W W' : World} {S : Nat → Prop} {A : Option Addr} {l : List UInt8}
theorem Rd.nil (W : World) (S : Nat → Prop) (A : Option Addr) : Rd W S A [] := fun h => absurd h (by simp)
theorem Rd.kept (h : Rd W S A l) (k : Kept S W W') : Rd W' S A l := fun hl => by
  obtain ⟨ad, rfl, hS, hc⟩ := h hl
  exact ⟨ad, rfl, hS, fun j u hu => (World.cell?_of_block (k _ (by rw [add_block_]; exact hS))).trans (hc j u hu)⟩
theorem Rd.mono (h : Rd W S A l) {S' : Nat → Prop} (k : ∀ b, S b → S' b) : Rd W S' A l := fun hl => by
  obtain ⟨ad, e, hS, hc⟩ := h hl
  exact ⟨ad, e, k _ hS, hc⟩
theorem Rd.take (h : Rd W S A l) (k : Nat) : Rd W S A (l.take k) := fun hl => by
  obtain ⟨ad, e, hS, hc⟩ := h (by rw [List.length_take] at hl; omega)
  refine ⟨ad, e, hS, fun j u hu => hc j u ?_⟩
  rw [byts_take, List.getElem?_take] at hu
  split at hu
  · exact hu
  · cases hu
theorem Rd.drop (h : Rd W S A l) (k m : Nat) (hm : l.length ≤ m) : Rd W S (if m = k then A else A.map (·.add k)) (l.drop k) := fun hl => by
  rw [List.length_drop] at hl
  obtain ⟨ad, rfl, hS, hc⟩ := h (by omega)
  rw [if_neg (by omega)]
  refine ⟨ad.add k, rfl, by rw [add_block_]; exact hS, fun j u hu => ?_⟩
  rw [add_add_]
  refine hc _ u ?_
  rw [byts_drop, List.getElem?_drop] at hu
  exact hu
/-- 'string(b)'. -/
theorem Rd.text {P : Program} (h : Rd W S A l) (src dst e : TypeId) (c : Nat) (hs : P.underlying src = some (.slice e)) (he : P.underlying e = some (.int .u8)) (hd : P.underlying dst = some .string) :
    (convert src dst (.slice A l.length c)).run P W = .ok (.string ⟨l.toArray⟩) W := by
  rcases Nat.eq_zero_or_pos l.length with h0 | h0
  · obtain rfl : l = [] := List.eq_nil_of_length_eq_zero h0
    cases A with
    | none => exact run_convert_bytes_nil W src e hs he _ c dst hd
    | some ad => exact run_convert_bytes_back W src dst e ad c [] hs he hd (fun j hj => absurd hj (by simp))
  · obtain ⟨ad, rfl, _, hc⟩ := h h0
    exact run_convert_bytes_back W src dst e ad c l hs he hd (fun j hj => hc j _ (byts_at hj))
end

/-- A slice's own row: n cells at the head of block r (no cell: anywhere). -/
def Row (W : World) (r : Nat) (t : TypeId) (A : Option Addr) (cs : List UInt8) : Prop := 0 < cs.length → A = some ⟨r, 0, none⟩ ∧ Has W r t (byts cs).toArray
theorem Row.rd {W : World} {r : Nat} {t : TypeId} {A : Option Addr} {cs : List UInt8} (h : Row W r t A cs) : Rd W (· = r) A cs := fun hl => by
  obtain ⟨rfl, hh⟩ := h hl
  refine ⟨_, rfl, rfl, fun j u hu => ?_⟩
  rw [add_zero_, hh.cell]
  simpa using hu
theorem Has.rd {W : World} {r : Nat} {t : TypeId} {cs : List UInt8} (h : Has W r t (byts cs).toArray) : Rd W (· = r) (some ⟨r, 0, none⟩) cs := Row.rd (t := t) fun _ => ⟨rfl, h⟩
theorem Row.kept {W W' : World} {r : Nat} {t : TypeId} {A : Option Addr} {cs : List UInt8} (h : Row W r t A cs) (k : W'.heap[r]? = W.heap[r]?) : Row W' r t A cs := fun hl => by
  obtain ⟨rfl, hh⟩ := h hl
  exact ⟨rfl, k.trans hh⟩
theorem Row.lt {W : World} {r : Nat} {t : TypeId} {A : Option Addr} {cs : List UInt8} (h : Row W r t A cs) (h0 : 0 < cs.length) : r < W.heap.size := (h h0).2.lt
theorem row_new (W : World) (t : TypeId) (cs : List UInt8) : Row (W.alloc (.cells (byts cs).toArray t)) W.heap.size t (some ⟨W.heap.size, 0, none⟩) cs := fun _ => ⟨rfl, Has.new _ _ _⟩

theorem splice_get {α : Type} (cs : List α) (off : Nat) (x : List α) (h : off + x.length ≤ cs.length) (j : Nat) :
    (splice cs off x)[j]? = if off ≤ j ∧ j < off + x.length then x[j - off]? else cs[j]? := by
  unfold splice
  rw [List.getElem?_append, List.length_take, Nat.min_eq_left (by omega)]
  split
  · rw [if_neg (by omega), List.getElem?_take, if_pos (by omega)]
  · rw [List.getElem?_append]
    split
    · rw [if_pos (by omega)]
    · rw [if_neg (by omega), List.getElem?_drop]
      congr 1; omega

/-- But for block g the world is as it was. -/
structure Only (g : Nat) (w w' : World) : Prop where
  os : w'.os = w.os
  tape : w'.tape = w.tape
  output : w'.output = w.output
  size : w'.heap.size = w.heap.size
  block : ∀ k, k ≠ g → w'.heap[k]? = w.heap[k]?
theorem Only.refl (g : Nat) (w : World) : Only g w w := ⟨rfl, rfl, rfl, rfl, fun _ _ => rfl⟩
theorem Only.below {g B : Nat} {w w' : World} (h : Only g w w') (hB : B ≤ g) : Below B w w' := ⟨h.os, h.tape, h.output, by rw [h.size]; exact Nat.le_refl _, fun k hk => h.block k (by omega)⟩
theorem Only.has {g k : Nat} {w w' : World} {t : TypeId} {cs : Array Value} (h : Only g w w') (hh : Has w k t cs) (hk : k ≠ g) : Has w' k t cs := (h.block k hk).trans hh
theorem only_setRow (g : Nat) (w : World) (cs : Array Value) : Only g w (w.setRow g cs) := ⟨rfl, rfl, rfl, by simp [World.setRow], fun k hk => setRow_other w g k cs hk⟩
theorem only_setCell (g i : Nat) (w : World) (u : Value) : Only g w (w.setCell ⟨g, i, none⟩ u) := ⟨rfl, rfl, rfl, by simp [World.setCell], fun k hk => Below.heap_setCell w ⟨g, i, none⟩ u k hk⟩
theorem Only.trans {g : Nat} {a b c : World} (h : Only g a b) (k : Only g b c) : Only g a c := ⟨k.os.trans h.os, k.tape.trans h.tape, k.output.trans h.output, k.size.trans h.size, fun i hi => (k.block i hi).trans (h.block i hi)⟩

/-- 'copy(d, s)' of bytes: into a row known whole, out of a slice that reads as bytes. -/
theorem wpList_copy_bytes {P : Program} {w : World} {ops : Array Oper} {rest : List Oper} {o : Oper} {a : Act} {Q : Exit → Act → World → Prop} (hgd : o.guard = none) (d s : Operand) (dT sT : TypeId)
    (ho : o.op = .call { callee := .builtin .copy, args := #[d, s], argTypes := #[dT, sT] }) (elem : TypeId) (hu : P.underlying dT = some (.slice elem)) (hsz : (P.info? elem).map (·.size) = some 1)
    (A B : Option Addr) (dLen dCap sLen sCap : Nat) (hd : a.eval d = .slice A dLen dCap) (hs : a.eval s = .slice B sLen sCap)
    (g off : Nat) (cur : List UInt8) (t : TypeId) (hg : Has w g t (byts cur).toArray) (x : List UInt8) (hn : x.length = Nat.min sLen dLen) (hA : 0 < x.length → A = some ⟨g, off, none⟩) (S : Nat → Prop) (hx : Rd w S B x)
    (hfit : off + x.length ≤ cur.length)
    (h : ∀ w', Has w' g t (byts (splice cur off x)).toArray → Only g w w' → wpList P ops Q rest (a.put o.dst (.int .i64 (x.length : Int))) w') : wpList P ops Q (o :: rest) a w := by
  rcases Nat.eq_zero_or_pos x.length with h0 | h0
  · obtain rfl : x = [] := List.eq_nil_of_length_eq_zero h0
    refine wpList_copy_nothing hgd d s dT sT ho elem hu hsz A B dLen dCap sLen sCap hd hs (by simpa using hn.symm) ?_
    exact h w (by simpa [splice] using hg) (Only.refl _ _)
  · obtain rfl := hA h0
    obtain ⟨ad, rfl, _, hc⟩ := hx h0
    refine wpList_copy_own hgd d s dT sT ho elem hu hsz g off dLen dCap ad sLen sCap hd hs (byts cur).toArray t hg (byts x) (by rw [byts_length]; exact hn) hc (by simpa [byts_length] using hfit) (byts_one x) ?_
    rw [byts_length]
    refine h _ ?_ (only_setRow _ _ _)
    rw [← byts_splice]
    have := setRow_heap w g (byts cur).toArray ((byts cur).toArray.toList.take off ++ (byts x ++ (byts cur).toArray.toList.drop (off + x.length))).toArray t _ hg
    unfold Has
    simpa [splice, byts_length] using this
/-- The same as an equation of the run: where the walk stands at the copy. -/
theorem run_copy_bytes {P : Program} {w : World} (dT sT ty : TypeId) (elem : TypeId) (hu : P.underlying dT = some (.slice elem)) (hsz : (P.info? elem).map (·.size) = some 1)
    (A B : Option Addr) (dLen dCap sLen sCap : Nat) (g off : Nat) (cur : List UInt8) (t : TypeId) (hg : Has w g t (byts cur).toArray) (x : List UInt8) (hn : x.length = Nat.min sLen dLen) (hA : 0 < x.length → A = some ⟨g, off, none⟩) (S : Nat → Prop) (hx : Rd w S B x)
    (hfit : off + x.length ≤ cur.length) :
    ∃ w', (Builtin.copy_ #[dT, sT] ty #[.slice A dLen dCap, .slice B sLen sCap]).run P w = .ok (.int .i64 (x.length : Int)) w' ∧ Has w' g t (byts (splice cur off x)).toArray ∧ Only g w w' := by
  rcases Nat.eq_zero_or_pos x.length with h0 | h0
  · obtain rfl : x = [] := List.eq_nil_of_length_eq_zero h0
    exact ⟨w, run_copy_none (P := P) w dT sT ty elem A B dLen dCap sLen sCap hu hsz (by simpa using hn.symm), by simpa [splice] using hg, Only.refl _ _⟩
  · obtain rfl := hA h0
    obtain ⟨ad, rfl, _, hc⟩ := hx h0
    have hrun := run_copy_row (P := P) w dT sT ty elem g off dLen dCap ad sLen sCap (byts cur).toArray t (byts x) hu hsz hg (by rw [byts_length]; exact hn) hc (by simpa [byts_length] using hfit) (byts_one x)
    rw [byts_length] at hrun
    refine ⟨_, hrun, ?_, only_setRow _ _ _⟩
    rw [← byts_splice]
    have := setRow_heap w g (byts cur).toArray ((byts cur).toArray.toList.take off ++ byts x ++ (byts cur).toArray.toList.drop (off + x.length)).toArray t _ hg
    unfold Has
    simpa [splice, byts_length] using this
end Go.Proofs.YtbmemkbfignlaaaGreatDoor
