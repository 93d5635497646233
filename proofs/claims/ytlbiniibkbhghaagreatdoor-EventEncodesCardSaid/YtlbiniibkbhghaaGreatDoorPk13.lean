import Derived.Test.YtlbiniibkbhghaaGreatDoorPk10
import Derived.Test.YtlbiniibkbhghaaGreatDoorPk11
import Derived.Maps.AppendAt
import Derived.BigQuiet
import Derived.Test.YtlbiniibkbhghaaGreatDoorPk7
import Derived.Maps.OwnOps
namespace Go.Proofs.YtlbiniibkbhghaaGreatDoor
open Go.RowKit

/-! ## What the document tells of events: mathematics -/
/-- What stands between bytes of a kind. -/
def partsG (c : UInt8) : List UInt8 → List (List UInt8)
  | [] => [[]]
  | b :: r => if b = c then [] :: partsG c r else match partsG c r with
    | [] => [[b]]
    | p :: ps => (b :: p) :: ps
theorem partsG_ten : ∀ l, partsG 10 l = partsL l
  | [] => rfl
  | b :: r => by
    unfold partsG partsL
    rw [partsG_ten r]
    split
    · rfl
    · cases partsL r <;> rfl
theorem partsG_ne (c : UInt8) (d : List UInt8) : partsG c d ≠ [] := by
  cases d with
  | nil => simp [partsG]
  | cons b r =>
    unfold partsG
    split
    · simp
    · split <;> simp
theorem partsG_no {c : UInt8} : ∀ {l : List UInt8}, c ∉ l → partsG c l = [l]
  | [], _ => rfl
  | b :: r, h => by
    rw [List.mem_cons, not_or] at h
    unfold partsG
    rw [if_neg (fun e => h.1 e.symm), partsG_no h.2]
theorem partsG_at {c : UInt8} : ∀ {a r : List UInt8}, c ∉ a → partsG c (a ++ c :: r) = a :: partsG c r
  | [], r, _ => by rw [List.nil_append]; conv => lhs; unfold partsG; rw [if_pos rfl]
  | b :: a, r, h => by
    rw [List.mem_cons, not_or] at h
    rw [List.cons_append]
    conv => lhs; unfold partsG
    rw [if_neg (fun e => h.1 e.symm), partsG_at h.2]
theorem partsG_many (c : UInt8) : ∀ d : List UInt8, (partsG c d).length ≤ d.length + 1
  | [] => by simp [partsG]
  | b :: r => by
    have ih := partsG_many c r
    unfold partsG
    split
    · simp; omega
    · cases hp : partsG c r with
      | nil => exact absurd hp (partsG_ne c r)
      | cons q ps => rw [hp] at ih; simp at ih ⊢; omega
/-- Where the parts stand while a text is gone over: what is told, where the next one begins. -/
structure PartS (c : UInt8) (l : List UInt8) (done : List (List UInt8)) (fr k : Nat) : Prop where
  le : fr ≤ k
  no : c ∉ (l.drop fr).take (k - fr)
  all : partsG c l = done ++ partsG c (l.drop fr)
theorem PartS.start (c : UInt8) (l : List UInt8) : PartS c l [] 0 0 := ⟨Nat.le_refl _, by simp, by simp⟩
theorem take_snoc {l : List UInt8} {fr k : Nat} (h : fr ≤ k) (hk : k < l.length) : (l.drop fr).take (k + 1 - fr) = (l.drop fr).take (k - fr) ++ [l[k]] := by
  have e : k + 1 - fr = (k - fr) + 1 := by omega
  rw [e, List.take_succ_eq_append_getElem (by rw [List.length_drop]; omega)]
  congr 2
  rw [List.getElem_drop]
  congr 1
  omega
theorem PartS.next {c : UInt8} {l : List UInt8} {done : List (List UInt8)} {fr k : Nat} (h : PartS c l done fr k) (hk : k < l.length) (hc : l[k] ≠ c) : PartS c l done fr (k + 1) := by
  refine ⟨by have := h.le; omega, ?_, h.all⟩
  rw [take_snoc h.le hk, List.mem_append, not_or]
  exact ⟨h.no, by simp; exact fun e => hc e.symm⟩
theorem PartS.cut {c : UInt8} {l : List UInt8} {done : List (List UInt8)} {fr k : Nat} (h : PartS c l done fr k) (hk : k < l.length) (hc : l[k] = c) : PartS c l (done ++ [(l.drop fr).take (k - fr)]) (k + 1) (k + 1) := by
  refine ⟨Nat.le_refl _, by simp, ?_⟩
  have hle := h.le
  have e : l.drop fr = (l.drop fr).take (k - fr) ++ c :: l.drop (k + 1) := by
    conv => lhs; rw [← List.take_append_drop (k - fr) (l.drop fr)]
    congr 1
    rw [List.drop_drop, show fr + (k - fr) = k by omega, List.drop_eq_getElem_cons hk, hc]
  rw [h.all]
  conv => lhs; rw [e, partsG_at h.no]
  simp
theorem PartS.end {c : UInt8} {l : List UInt8} {done : List (List UInt8)} {fr : Nat} (h : PartS c l done fr l.length) : partsG c l = done ++ [l.drop fr] := by
  have hn := h.no
  rw [List.take_of_length_le (by simp)] at hn
  rw [h.all, partsG_no hn]
theorem PartS.few {c : UInt8} {l : List UInt8} {done : List (List UInt8)} {fr k : Nat} (h : PartS c l done fr k) : done.length ≤ l.length := by
  have h1 := partsG_many c l
  have h2 := List.length_pos_iff.2 (partsG_ne c (l.drop fr))
  rw [h.all, List.length_append] at h1
  omega
/-- Has a text one of some bytes? -/
def hasB (s l : List UInt8) : Bool := s.any fun b => l.contains b
theorem hasB_all (s l : List UInt8) : (!hasB s l) = l.all fun b => !s.contains b := by
  rw [Bool.eq_iff_iff]
  unfold hasB
  simp only [Bool.not_eq_true', List.any_eq_false, List.all_eq_true, List.contains_iff_mem]
  constructor
  · intro h b hb
    cases hc : s.contains b with
    | false => rfl
    | true => exact absurd hb (h b (List.contains_iff_mem.1 hc))
  · intro h b hb hl
    have := h b hl
    rw [List.contains_iff_mem.2 hb] at this
    cases this
theorem hasB3 (t : List UInt8) : (!hasB t [0, 13, 10]) = (barL.take 3).all fun b => !t.contains b := by
  rw [hasB_all]
  simp only [barL, List.take, List.all_cons, List.all_nil, Bool.and_true]
  cases t.contains 0 <;> cases t.contains 13 <;> cases t.contains 10 <;> rfl
theorem hasB2 (t : List UInt8) : (!hasB t [13, 10]) = (barL.take 2).all fun b => !t.contains b := hasB_all _ _
theorem hasB1 (t : List UInt8) : (!hasB t [13]) = (barL.take 1).all fun b => !t.contains b := hasB_all _ _
/-- May an event be, as the document asks? -/
def refRight (e : Ev) : Bool := !hasB e.1 [0, 13, 10] && (!hasB e.2.1 [13, 10] && (!hasB e.2.2 [13] && (soundB e.1 && (soundB e.2.1 && soundB e.2.2))))
theorem refRight_eq (e : Ev) (h : e.1.length + e.2.1.length + e.2.2.length ≤ 65536) : refRight e = rightE e := by
  unfold refRight rightE fitsE cleanB
  rw [hasB3, hasB2, hasB1, decide_eq_true h]
  cases soundB e.1 <;> cases soundB e.2.1 <;> cases soundB e.2.2 <;> simp

/-! ## What is a reset -/
theorem cutG {s : List UInt8} : (32 ∉ s → Lib.cut s [32] = (s, [], false)) ∧ (∀ a r, s = a ++ 32 :: r → 32 ∉ a → Lib.cut s [32] = (a, r, true)) := by
  have key : ∀ s : List UInt8, (32 ∉ s → Lib.index s [32] = -1) ∧ (∀ a r, s = a ++ 32 :: r → 32 ∉ a → Lib.index s [32] = a.length) := by
    intro s
    induction s with
    | nil => exact ⟨fun _ => by simp [Lib.index], fun a r h => by simp at h⟩
    | cons b t ih =>
      have hx : ∀ hb : b ≠ 32, Lib.index (b :: t) [32] = if Lib.index t [32] == -1 then -1 else Lib.index t [32] + 1 := by
        intro hb
        conv => lhs; unfold Lib.index
        rw [show ([32] : List UInt8).isPrefixOf (b :: t) = false from by simp [List.isPrefixOf]; exact fun e => hb e.symm]
        rfl
      refine ⟨fun h => ?_, fun a r h ha => ?_⟩
      · rw [List.mem_cons, not_or] at h
        rw [hx (fun e => h.1 e.symm), ih.1 h.2]
        rfl
      · cases a with
        | nil =>
          simp only [List.nil_append, List.cons.injEq] at h
          rw [h.1]
          simp [Lib.index, List.isPrefixOf]
        | cons x a =>
          simp only [List.cons_append, List.cons.injEq] at h
          rw [List.mem_cons, not_or] at ha
          rw [hx (fun e => ha.1 (by rw [← e, h.1])), ih.2 a r h.2 ha.2, if_neg (by simp)]
          simp
  refine ⟨fun h => ?_, fun a r h ha => ?_⟩
  · unfold Lib.cut
    rw [(key s).1 h, if_neg (by decide)]
  · unfold Lib.cut
    rw [(key s).2 a r h ha, if_pos (by omega), h]
    simp
theorem parse_no32 {l : List UInt8} (h : 32 ∈ l) : (parseR l).2 ≠ 0 := by
  unfold parseR
  split
  · simp
  · unfold numR
    rw [if_neg (fun hh => by exact absurd (hh.2 32 h) (by decide))]
    simp
theorem parse_nil : (parseR []).2 ≠ 0 := by decide
/-- What the document tells of an event: its reset's two numbers, if it is one. -/
def refRes (e : Ev) : Option (Int × Int) :=
  if e.1 = [] ∧ e.2.1 = resetT then match partsG 32 e.2.2 with
    | [p, q] => if (parseR p).2 = 0 ∧ (parseR q).2 = 0 then some ((parseR p).1, (parseR q).1) else none
    | _ => none
  else none
theorem first32 : ∀ s : List UInt8, 32 ∈ s → ∃ a r, s = a ++ 32 :: r ∧ 32 ∉ a
  | [], h => by simp at h
  | b :: t, h => by
    by_cases hb : b = 32
    · exact ⟨[], t, by rw [hb]; rfl, by simp⟩
    · rw [List.mem_cons] at h
      obtain ⟨a, r, h1, h2⟩ := first32 t (h.resolve_left fun e => hb e.symm)
      exact ⟨b :: a, r, by rw [h1]; rfl, by rw [List.mem_cons, not_or]; exact ⟨fun e => hb e.symm, h2⟩⟩
theorem refRes_eq (e : Ev) : refRes e = resE e := by
  unfold refRes resE
  split
  · by_cases h : 32 ∈ e.2.2
    · obtain ⟨a, r, hs, ha⟩ := first32 _ h
      rw [(cutG).2 a r hs ha, hs, partsG_at ha]
      by_cases hr : 32 ∈ r
      · obtain ⟨a2, r2, hs2, ha2⟩ := first32 _ hr
        have hp : ∃ x y z, partsG 32 r = x :: y :: z := by
          rw [hs2, partsG_at ha2]
          cases hq : partsG 32 r2 with
          | nil => exact absurd hq (partsG_ne 32 r2)
          | cons y z => exact ⟨_, _, _, rfl⟩
        obtain ⟨x, y, z, hp⟩ := hp
        rw [hp]
        simp only
        rw [if_neg (fun hh => parse_no32 hr hh.2)]
      · rw [partsG_no hr]
    · rw [(cutG).1 h, partsG_no h]
      simp only
      rw [if_neg (fun hh => parse_nil hh.2)]
  · rfl
end Go.Proofs.YtlbiniibkbhghaaGreatDoor

namespace Go.Proofs.YtlbiniibkbhghaaGreatDoor
open Go.RowKit

/-! ## Texts in memory: a list of them, made by the call itself -/
def strsC (l : List (List UInt8)) : List Value := l.map fun t => .string ⟨t.toArray⟩
theorem strsC_one (l : List (List UInt8)) : ∀ u ∈ strsC l, u.oneCell' = true := by
  intro u hu
  obtain ⟨x, _, rfl⟩ := List.mem_map.1 hu
  rfl
def Strs (W : World) (n0 : Nat) (v : Value) (l : List (List UInt8)) : Prop := W.ownsRow n0 9 1 v l.length (strsC l)
theorem strs_nil (W : World) (n0 : Nat) : Strs W n0 (.slice none 0 0) [] := ⟨rfl, .inl ⟨rfl, rfl⟩⟩
/-- Where such a list lies: block g, whose cells are cur (of none: nowhere). -/
def StrsIn (W : World) (n0 : Nat) (A : Option Addr) (g : Nat) (cur : Array Value) (l : List (List UInt8)) : Prop :=
  (0 < l.length → A = some ⟨g, 0, none⟩ ∧ n0 ≤ g ∧ Has W g 9 cur) ∧ ∀ (i : Nat) (x : List UInt8), l[i]? = some x → cur[i]? = some (Value.string ⟨x.toArray⟩)
section
variable {W W' : World} {n0 : Nat} {v : Value} {l : List (List UInt8)}
theorem Strs.shape (h : Strs W n0 v l) : ∃ A g c cur, v = .slice A l.length c ∧ StrsIn W n0 A g cur l := by
  have hh := h
  rcases h.2 with ⟨rfl, h0⟩ | ⟨g, cap, cur, rfl, hb, hg, _⟩
  · exact ⟨none, 0, 0, #[], by rw [h0], fun hl => by omega, fun i x hx => by have := (List.getElem?_eq_some_iff.1 hx).1; omega⟩
  · refine ⟨_, g, cap, cur, rfl, fun _ => ⟨rfl, hb, hg⟩, fun i x hx => ?_⟩
    have c := World.ownsRow.cells (g := g) hh rfl i (.string ⟨x.toArray⟩) (by unfold strsC; rw [List.getElem?_map, hx]; rfl)
    rw [show (⟨g, 0, none⟩ : Addr).add i = ⟨g, i, none⟩ from by unfold Addr.add; split <;> simp_all] at c
    rw [Has.cell (show Has W g 9 cur from hg)] at c
    exact c
theorem Strs.own (h : Strs W n0 v l) : ∀ g, v.ownBlock = some g → n0 ≤ g ∧ ∃ cs, Has W g 9 cs := by
  intro g hg
  rcases h.2 with ⟨rfl, _⟩ | ⟨g', cap, cur, rfl, hb, hh, r⟩
  · cases hg
  · obtain rfl : g' = g := by simpa [Value.ownBlock] using hg
    exact ⟨hb, cur, hh⟩
theorem Strs.below (h : Strs W n0 v l) (hb : Below W.heap.size W W') : Strs W' n0 v l := by
  refine ⟨h.1, ?_⟩
  rcases h.2 with h | ⟨g, cap, cur, rfl, hb', hg, r⟩
  · exact .inl h
  · exact .inr ⟨g, cap, cur, rfl, hb', (hb.block g (Array.getElem?_eq_some_iff.1 hg).1).trans hg, r⟩
theorem Strs.mono (h : Strs W n0 v l) {n1 : Nat} (hn : n1 ≤ n0) : Strs W n1 v l := by
  refine ⟨h.1, ?_⟩
  rcases h.2 with h | ⟨g, cap, cur, rfl, hb', r⟩
  · exact .inl h
  · exact .inr ⟨g, cap, cur, rfl, by omega, r⟩
end
theorem infoStr : (Tryz.prog.info? 9).map (fun i => (i.zero, i.size, i.bytes)) = some (some (.string ⟨#[]⟩), 1, 16) := by kernel_rfl
theorem info_str : ∃ i, Tryz.prog.info? 9 = some i ∧ i.zero = some (.string ⟨#[]⟩) ∧ i.size = 1 ∧ i.bytes = 16 := by
  have h := infoStr
  cases hi : Tryz.prog.info? 9 with
  | none => rw [hi] at h; cases h
  | some i =>
    rw [hi] at h
    simp at h
    exact ⟨i, rfl, h⟩
section
variable {w : World} {ops : Array Oper} {rest : List Oper} {o : Oper} {a : Act} {Q : Exit → Act → World → Prop} {n0 : Nat} {v : Value} {l : List (List UInt8)}
theorem wpList_append_str (hgd : o.guard = none) (s x : Operand) (ho : o.op = .call { callee := .builtin .append, args := #[s, x], argTypes := #[35, 35] }) (hsv : a.eval s = v) (hv : Strs w n0 v l)
    (k : Nat) (t : List UInt8) (hxv : a.eval x = .slice (some ⟨k, 0, none⟩) 1 1) (hx : Has w k 9 #[.string ⟨t.toArray⟩]) (hs : l.length + 1 ≤ 1000000) (hn : n0 ≤ w.heap.size)
    (h : ∀ v' w', Strs w' n0 v' (l ++ [t]) → w.grownBy w' v.ownBlock → wpList Tryz.prog ops Q rest (a.put o.dst v') w') : wpList Tryz.prog ops Q (o :: rest) a w := by
  obtain ⟨i, hi, hz, hz1, hz2⟩ := info_str
  refine wpList_append_own_at w hgd s x 35 ho n0 9 i (.string ⟨#[]⟩) 1 16 Tryz.underlying35 hi hz hz1 hz2 rfl (by decide) v l.length (strsC l) hsv hv ⟨k, 0, none⟩ 1 1 [.string ⟨t.toArray⟩] hxv rfl (fun j u hu => ?_) (by intro u hu; rw [List.mem_singleton.1 hu]; rfl) (by simp only [maxLen]; omega) (by omega) hn (fun v' w' h1 h2 _ _ => h v' w' ?_ h2)
  · have hj : j = 0 := by
      have := (List.getElem?_eq_some_iff.1 hu).1
      simp at this
      omega
    subst hj
    have e : (⟨k, 0, none⟩ : Addr).add 0 = ⟨k, 0, none⟩ := by unfold Addr.add; split <;> simp_all
    rw [e, hx.cell]
    simpa using hu
  · unfold Strs
    rw [List.length_append, List.length_singleton, show strsC (l ++ [t]) = strsC l ++ [.string ⟨t.toArray⟩] by simp [strsC]]
    exact h1
end
theorem grown_str {X Y : World} {v : Value} {l : List (List UInt8)} {n0 k : Nat} {t : TypeId} {cs : Array Value} (h : Has X k t cs) (hf : Strs X n0 v l) (hg : X.grownBy Y v.ownBlock) (ht : t ≠ 9) : Has Y k t cs :=
  (hg.block k h.lt (fun e => by
    obtain ⟨_, cs', hc⟩ := hf.own k e.symm
    have : Obj.cells cs t (0, 0) = .cells cs' 9 (0, 0) := by
      have e1 : X.heap[k]? = some (.cells cs t (0, 0)) := h
      have e2 : X.heap[k]? = some (.cells cs' 9 (0, 0)) := hc
      rw [e1] at e2
      exact Option.some.inj e2
    injection this with _ h2 _
    exact ht h2)).trans h
end Go.Proofs.YtlbiniibkbhghaaGreatDoor

namespace Go.Proofs.YtlbiniibkbhghaaGreatDoor
open Go.RowKit Go.Shelf
attribute [local go_sem] Oper.semAt_some

/-! ## The document's Has, Parts -/
theorem byE (l : List UInt8) (k : Nat) (__h : k < l.length) (h' : k < (⟨l.toArray⟩ : ByteArray).size) : ((⟨l.toArray⟩ : ByteArray)[k]'h') = l[k] := rfl
theorem exE (l : List UInt8) (a b : Nat) : (⟨l.toArray⟩ : ByteArray).extract a b = ⟨((l.drop a).take (b - a)).toArray⟩ := by
  have h : ((⟨l.toArray⟩ : ByteArray).extract a b).data = ((l.drop a).take (b - a)).toArray := by
    apply Array.toList_inj.1
    rw [ByteArray.data_extract, Array.toList_extract, List.extract_eq_take_drop]
  generalize (⟨l.toArray⟩ : ByteArray).extract a b = x at h ⊢
  cases x
  exact congrArg ByteArray.mk h
theorem not_in_next {b : UInt8} {l : List UInt8} {j : Nat} (h : b ∉ l.take j) (hj : j < l.length) (hne : b ≠ l[j]) : b ∉ l.take (j + 1) := by
  rw [List.take_succ_eq_append_getElem hj, List.mem_append, not_or]
  exact ⟨h, by simpa using hne⟩
theorem hasB_yes {s l : List UInt8} {k j : Nat} (hk : k < s.length) (hj : j < l.length) (h : s[k] = l[j]) : hasB s l = true := by
  unfold hasB
  exact List.any_eq_true.2 ⟨s[k], List.getElem_mem hk, List.contains_iff_mem.2 (h ▸ List.getElem_mem hj)⟩
theorem hasB_no {s l : List UInt8} (h : ∀ b ∈ s, b ∉ l) : hasB s l = false := by
  unfold hasB
  rw [List.any_eq_false]
  intro b hb hc
  exact h b hb (List.contains_iff_mem.1 hc)
set_option maxRecDepth 100000 in
set_option maxHeartbeats 1000000 in
theorem refHas_any (s l : List UInt8) (w : World) (hs : s.length ≤ 1000000) (hl : l.length ≤ 1000) : Calls Tryz.prog 30 #[.string ⟨s.toArray⟩, .string ⟨l.toArray⟩] w fun e w' => e = .returned (.bool (hasB s l)) ∧ Below w.heap.size w w' := by
  go_enter Tryz.func30, Tryz.ntmps30
  go_wp2_with fail
  go_loopw [5] (fun v W => ∃ k : Nat, v = .int .i64 (k : Int) ∧ k ≤ s.length ∧ (∀ b ∈ s.take k, b ∉ l) ∧ Below w.heap.size w W) (fun v _ => s.length - (intOf v).toNat)
  case atStart => exact ⟨0, rfl, Nat.zero_le _, fun b hb => by simp at hb, Below.refl _ _⟩
  case round =>
    obtain ⟨k, rfl, hk, hno, hb⟩ := hrel
    have hno' := Lib.hid hno
    have hb' := Lib.hid hb
    clear hno hb
    by_cases hlt : k < s.length
    · have hltI : (k : Int) < (s.length : Int) := by omega
      go_wp2_with fail
      go_loopw [6] (fun v W => ∃ j : Nat, v = .int .i64 (j : Int) ∧ j ≤ l.length ∧ s[k] ∉ l.take j ∧ Below w.heap.size w W) (fun v _ => l.length - (intOf v).toNat)
      case atStart => exact ⟨0, rfl, Nat.zero_le _, by simp, hb'.out⟩
      case round =>
        obtain ⟨j, rfl, hj, hnj, hbj⟩ := hrel
        have hnj' := Lib.hid hnj
        have hbj' := Lib.hid hbj
        clear hnj hbj hb'
        by_cases hjt : j < l.length
        · have hjtI : (j : Int) < (l.length : Int) := by omega
          by_cases he : s[k] = l[j]
          · have hne : ((((⟨s.toArray⟩ : ByteArray)[k]'hlt).toNat : Int) == (((⟨l.toArray⟩ : ByteArray)[j]'hjt).toNat : Int)) = true := by
              rw [byE s k hlt, byE l j hjt, he, beq_iff_eq]
            have hres := Lib.hid (hasB_yes hlt hjt he)
            clear he
            go_wp2_with fail
            go_quiet (fail)
            go_wp2_with fail
            go_ret
            exact ⟨by rw [hres.out]; rfl, below_draws hbj'.out _⟩
          · have hne : ((((⟨s.toArray⟩ : ByteArray)[k]'hlt).toNat : Int) == (((⟨l.toArray⟩ : ByteArray)[j]'hjt).toNat : Int)) = false := by
              rw [byE s k hlt, byE l j hjt, beq_eq_false_iff_ne]
              intro e
              exact he (UInt8.toNat_inj.1 (by omega))
            have hnx := Lib.hid (not_in_next hnj'.out hjt he)
            clear he
            go_wp2_with fail
            go_quiet (fail)
            go_wp2_with fail
            exact ⟨⟨j + 1, by go_num, by omega, hnx.out, below_draws hbj'.out _⟩, by simp [intOf]; omega⟩
        · obtain rfl : j = l.length := by omega
          have hnx := Lib.hid (show ∀ b ∈ s.take (k + 1), b ∉ l by
            intro b hb
            rw [List.take_succ_eq_append_getElem hlt, List.mem_append] at hb
            rcases hb with hb | hb
            · exact hno'.out b hb
            · obtain rfl : b = s[k] := by simpa using hb
              have := hnj'.out
              rwa [List.take_length] at this)
          go_wp2_with fail
          exact ⟨⟨k + 1, by go_num, by omega, hnx.out, hbj'.out⟩, by simp [intOf]; omega⟩
    · obtain rfl : k = s.length := by omega
      have hres := Lib.hid (hasB_no (s := s) (l := l) (by have := hno'.out; rwa [List.take_length] at this))
      go_wp2_with fail
      go_ret
      exact ⟨by rw [hres.out]; rfl, hb'.out⟩
/-- How the parts stand at a byte, or behind the text. -/
def PartQ (c : UInt8) (l : List UInt8) (done : List (List UInt8)) (fr k : Nat) : Prop := (k ≤ l.length ∧ PartS c l done fr k) ∨ (k = l.length + 1 ∧ done = partsG c l)
theorem PartQ.few {c : UInt8} {l : List UInt8} {done : List (List UInt8)} {fr k : Nat} (h : PartQ c l done fr k) : done.length ≤ l.length + 1 := by
  rcases h with ⟨_, h⟩ | ⟨_, rfl⟩
  · have := h.few; omega
  · exact partsG_many c l
set_option maxRecDepth 100000 in
set_option maxHeartbeats 2000000 in
theorem refParts_any (c : UInt8) (l : List UInt8) (w : World) (hl : l.length ≤ 100000) : Calls Tryz.prog 33 #[.string ⟨l.toArray⟩, .int .u8 (c.toNat : Int)] w fun e w' => ∃ v, e = .returned v ∧ Strs w' w.heap.size v (partsG c l) ∧ Below w.heap.size w w' := by
  go_enter Tryz.func33, Tryz.ntmps33
  go_wp2_with fail
  go_loopw [5, 6, 7] (fun v f x W => ∃ (done : List (List UInt8)) (fr k : Nat), f = .int .i64 (fr : Int) ∧ x = .int .i64 (k : Int) ∧ k ≤ l.length + 1 ∧ fr ≤ l.length + 1 ∧ PartQ c l done fr k ∧ Strs W w.heap.size v done ∧ Below w.heap.size w W) (fun _ _ x _ => l.length + 1 - (intOf x).toNat)
  case atStart => exact ⟨[], 0, 0, rfl, rfl, Nat.zero_le _, Nat.zero_le _, .inl ⟨Nat.zero_le _, PartS.start c l⟩, strs_nil _ _, Below.refl _ _⟩
  case round =>
    obtain ⟨done, fr, k, rfl, rfl, hk, hfr, hq, hst, hb⟩ := hrel
    obtain ⟨A3, g3, c3, cur3, hv3, _⟩ := hst.shape
    have hfew := hq.few
    obtain ⟨n3, hn3⟩ : ∃ n3, done.length = n3 := ⟨_, rfl⟩
    rw [hn3] at hv3 hfew
    subst hv3
    have hn3' := Lib.hid hn3
    have hq' := Lib.hid hq
    have hst' := Lib.hid hst
    have hb' := Lib.hid hb
    clear hn3 hq hst hb
    by_cases hle : k ≤ l.length
    · have hleI : (k : Int) ≤ (l.length : Int) := by omega
      have hP := Lib.hid (show PartS c l done fr k from hq'.out.elim (fun h => h.2) (fun h => by omega))
      have hfk := hP.out.le
      have hfkI : (fr : Int) ≤ (k : Int) := by omega
      have hx1 := exE l fr k
      obtain ⟨t, ht⟩ : ∃ t, (l.drop fr).take (k - fr) = t := ⟨_, rfl⟩
      rw [ht] at hx1
      have hal := Lib.hid (((Below.refl wr.heap.size wr).alloc (Nat.le_refl _) (.cells #[.string ⟨t.toArray⟩] 9)))
      have hnew := Lib.hid (Has.new wr 9 #[.string ⟨t.toArray⟩])
      have hst2 := Lib.hid (hst'.out.below hal.out)
      have hz3 := hb'.out.size
      have ht' := Lib.hid ht
      clear ht
      by_cases heq : k = l.length
      · subst heq
        go_wp2_with (at_builtin; refine wpList_append_str rfl _ _ rfl rfl hst2.out _ t rfl hnew.out (by rw [hn3'.out]; omega) (by simp; omega) ?_; intro v4 w4 ho4 hg4; have ho4' := Lib.hid ho4; have hg4' := Lib.hid hg4; clear ho4 hg4)
        refine ⟨⟨_, l.length + 1, l.length + 1, by go_num, by go_num, by omega, by omega, .inr ⟨rfl, ?_⟩, ho4'.out, ((hb'.out.trans (hal.out.mono hz3)).grown hg4'.out (by simp; omega) (fun g e => (hst2.out.own g e).1))⟩, by simp [intOf]⟩
        rw [hP.out.end, ← ht'.out, List.take_of_length_le (by simp)]
      · have hlt : k < l.length := by omega
        have hltI : (k : Int) < (l.length : Int) := by omega
        have hneI : ((k : Int) == (l.length : Int)) = false := by rw [beq_eq_false_iff_ne]; omega
        by_cases hc : l[k] = c
        · have hce : ((((⟨l.toArray⟩ : ByteArray)[k]'hlt).toNat : Int) == (c.toNat : Int)) = true := by rw [byE l k hlt, hc, beq_iff_eq]
          have hnx := Lib.hid (hP.out.cut hlt hc)
          clear hc
          go_wp2_with (at_builtin; refine wpList_append_str rfl _ _ rfl rfl hst2.out _ t rfl hnew.out (by rw [hn3'.out]; omega) (by simp; omega) ?_; intro v4 w4 ho4 hg4; have ho4' := Lib.hid ho4; have hg4' := Lib.hid hg4; clear ho4 hg4)
          refine ⟨⟨_, k + 1, k + 1, by go_num, by go_num, by omega, by omega, .inl ⟨by omega, ?_⟩, ho4'.out, ((hb'.out.trans (hal.out.mono hz3)).grown hg4'.out (by simp; omega) (fun g e => (hst2.out.own g e).1))⟩, by simp [intOf]; omega⟩
          rw [← ht'.out]
          exact hnx.out
        · have hce : ((((⟨l.toArray⟩ : ByteArray)[k]'hlt).toNat : Int) == (c.toNat : Int)) = false := by
            rw [byE l k hlt, beq_eq_false_iff_ne]
            intro e
            exact hc (UInt8.toNat_inj.1 (by omega))
          have hnx := Lib.hid (hP.out.next hlt hc)
          clear hc
          go_wp2_with fail
          exact ⟨⟨done, fr, k + 1, rfl, by go_num, by omega, hfr, .inl ⟨by omega, hnx.out⟩, hst'.out, hb'.out⟩, by simp [intOf]; omega⟩
    · have hgt : decide ((k : Int) ≤ (l.length : Int)) = false := decide_eq_false (by omega)
      have hgt2 : decide (k ≤ l.length) = false := decide_eq_false hle
      have hd := Lib.hid (show done = partsG c l from hq'.out.elim (fun h => absurd h.1 hle) (fun h => h.2))
      go_wp2_with fail
      go_ret
      exact ⟨_, rfl, by rw [← hd.out]; exact hst'.out, hb'.out⟩
end Go.Proofs.YtlbiniibkbhghaaGreatDoor

namespace Go.Proofs.YtlbiniibkbhghaaGreatDoor
open Go.RowKit Go.Maps

/-! ## What is asked of a value -/
def hasNought (l : List UInt8) : Bool := decide (0 ≤ Lib.indexByte l 0)
end Go.Proofs.YtlbiniibkbhghaaGreatDoor

namespace Go.Proofs.YtlbiniibkbhghaaGreatDoor
open Go.RowKit Go.Maps

/-! ## The map of what is asked -/
def anyElem : Value → Option (DataW Value × List MemPlace) := fun v => some (.held v, [])
theorem keysI : Keyed Tryz.prog 51 := int_keyed Tryz.underlying51
def fnV (f b : Nat) : Value := .func (.func f) #[] #[.pointer (some ⟨b, 0, none⟩)]
end Go.Proofs.YtlbiniibkbhghaaGreatDoor
