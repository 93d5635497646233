import Derived.Test.YtbmemkbfignlaaaGreatDoorPk1
import Derived.Test.YtbmemkbfignlaaaGreatDoorProg
import Derived.Maps.AppendAt
import Derived.OwnWalk
import Derived.Test.YtbmemkbfignlaaaGreatDoorPk2
namespace Go.Proofs.YtbmemkbfignlaaaGreatDoor
open Go.RowKit
/-! ## What stands between bytes: mathematics (of no layer) -/
/-- What stands between bytes of a kind. -/
def partsG (c : UInt8) : List UInt8 → List (List UInt8)
  | [] => [[]]
  | b :: r => if b = c then [] :: partsG c r else match partsG c r with
    | [] => [[b]]
    | p :: ps => (b :: p) :: ps
theorem partsG_ne (c : UInt8) (d : List UInt8) : partsG c d ≠ [] := by
  cases d with
  | nil => simp [partsG]
  | cons b r =>
    unfold partsG
    split
    · simp
    · split <;> simp
theorem partsG_no {c : UInt8} : ∀ {l : List UInt8}, c ∉ l → partsG c l = [l]
  | [], _ => rfl
  | b :: r, h => by
    rw [List.mem_cons, not_or] at h
    unfold partsG
    rw [if_neg (fun e => h.1 e.symm), partsG_no h.2]
theorem partsG_at {c : UInt8} : ∀ {a r : List UInt8}, c ∉ a → partsG c (a ++ c :: r) = a :: partsG c r
  | [], r, _ => by rw [List.nil_append]; conv => lhs; unfold partsG; rw [if_pos rfl]
  | b :: a, r, h => by
    rw [List.mem_cons, not_or] at h
    rw [List.cons_append]
    conv => lhs; unfold partsG
    rw [if_neg (fun e => h.1 e.symm), partsG_at h.2]
theorem partsG_many (c : UInt8) : ∀ d : List UInt8, (partsG c d).length ≤ d.length + 1
  | [] => by simp [partsG]
  | b :: r => by
    have ih := partsG_many c r
    unfold partsG
    split
    · simp; omega
    · cases hp : partsG c r with
      | nil => exact absurd hp (partsG_ne c r)
      | cons q ps => rw [hp] at ih; simp at ih ⊢; omega
/-- Where the parts stand while a text is gone over: what is told, where the next one begins. -/
structure PartS (c : UInt8) (l : List UInt8) (done : List (List UInt8)) (fr k : Nat) : Prop where
  le : fr ≤ k
  no : c ∉ (l.drop fr).take (k - fr)
  all : partsG c l = done ++ partsG c (l.drop fr)
theorem PartS.start (c : UInt8) (l : List UInt8) : PartS c l [] 0 0 := ⟨Nat.le_refl _, by simp, by simp⟩
theorem take_snoc {l : List UInt8} {fr k : Nat} (h : fr ≤ k) (hk : k < l.length) : (l.drop fr).take (k + 1 - fr) = (l.drop fr).take (k - fr) ++ [l[k]] := by
  have e : k + 1 - fr = (k - fr) + 1 := by omega
  rw [e, List.take_succ_eq_append_getElem (by rw [List.length_drop]; omega)]
  congr 2
  rw [List.getElem_drop]
  congr 1
  omega
theorem PartS.next {c : UInt8} {l : List UInt8} {done : List (List UInt8)} {fr k : Nat} (h : PartS c l done fr k) (hk : k < l.length) (hc : l[k] ≠ c) : PartS c l done fr (k + 1) := by
  refine ⟨by have := h.le; omega, ?_, h.all⟩
  rw [take_snoc h.le hk, List.mem_append, not_or]
  exact ⟨h.no, by simp; exact fun e => hc e.symm⟩
theorem PartS.cut {c : UInt8} {l : List UInt8} {done : List (List UInt8)} {fr k : Nat} (h : PartS c l done fr k) (hk : k < l.length) (hc : l[k] = c) : PartS c l (done ++ [(l.drop fr).take (k - fr)]) (k + 1) (k + 1) := by
  refine ⟨Nat.le_refl _, by simp, ?_⟩
  have hle := h.le
  have e : l.drop fr = (l.drop fr).take (k - fr) ++ c :: l.drop (k + 1) := by
    conv => lhs; rw [← List.take_append_drop (k - fr) (l.drop fr)]
    congr 1
    rw [List.drop_drop, show fr + (k - fr) = k by omega, List.drop_eq_getElem_cons hk, hc]
  rw [h.all]
  conv => lhs; rw [e, partsG_at h.no]
  simp
theorem PartS.end {c : UInt8} {l : List UInt8} {done : List (List UInt8)} {fr : Nat} (h : PartS c l done fr l.length) : partsG c l = done ++ [l.drop fr] := by
  have hn := h.no
  rw [List.take_of_length_le (by simp)] at hn
  rw [h.all, partsG_no hn]
theorem PartS.few {c : UInt8} {l : List UInt8} {done : List (List UInt8)} {fr k : Nat} (h : PartS c l done fr k) : done.length ≤ l.length := by
  have h1 := partsG_many c l
  have h2 := List.length_pos_iff.2 (partsG_ne c (l.drop fr))
  rw [h.all, List.length_append] at h1
  omega
/-- How the parts stand at a byte, or behind the text. -/
def PartQ (c : UInt8) (l : List UInt8) (done : List (List UInt8)) (fr k : Nat) : Prop := (k ≤ l.length ∧ PartS c l done fr k) ∨ (k = l.length + 1 ∧ done = partsG c l)
theorem PartQ.few {c : UInt8} {l : List UInt8} {done : List (List UInt8)} {fr k : Nat} (h : PartQ c l done fr k) : done.length ≤ l.length + 1 := by
  rcases h with ⟨_, h⟩ | ⟨_, rfl⟩
  · have := h.few; omega
  · exact partsG_many c l
end Go.Proofs.YtbmemkbfignlaaaGreatDoor

namespace Go.Proofs.YtbmemkbfignlaaaGreatDoor
open Go.RowKit

/-! ## Texts in memory: a list of them, made by the call itself -/
def strsC (l : List (List UInt8)) : List Value := l.map fun t => .string ⟨t.toArray⟩
theorem strsC_one (l : List (List UInt8)) : ∀ u ∈ strsC l, u.oneCell' = true := by
  intro u hu
  obtain ⟨x, _, rfl⟩ := List.mem_map.1 hu
  rfl
def Strs (W : World) (n0 : Nat) (v : Value) (l : List (List UInt8)) : Prop := W.ownsRow n0 9 1 v l.length (strsC l)
theorem strs_nil (W : World) (n0 : Nat) : Strs W n0 (.slice none 0 0) [] := ⟨rfl, .inl ⟨rfl, rfl⟩⟩
/-- Where such a list lies: block g, whose cells are cur (of none: nowhere). -/
def StrsIn (W : World) (n0 : Nat) (A : Option Addr) (g : Nat) (cur : Array Value) (l : List (List UInt8)) : Prop :=
  (0 < l.length → A = some ⟨g, 0, none⟩ ∧ n0 ≤ g ∧ Has W g 9 cur) ∧ ∀ (i : Nat) (x : List UInt8), l[i]? = some x → cur[i]? = some (Value.string ⟨x.toArray⟩)
section
variable {W W' : World} {n0 : Nat} {v : Value} {l : List (List UInt8)}
theorem Strs.shape (h : Strs W n0 v l) : ∃ A g c cur, v = .slice A l.length c ∧ StrsIn W n0 A g cur l := by
  have hh := h
  rcases h.2 with ⟨rfl, h0⟩ | ⟨g, cap, cur, rfl, hb, hg, _⟩
  · exact ⟨none, 0, 0, #[], by rw [h0], fun hl => by omega, fun i x hx => by have := (List.getElem?_eq_some_iff.1 hx).1; omega⟩
  · refine ⟨_, g, cap, cur, rfl, fun _ => ⟨rfl, hb, hg⟩, fun i x hx => ?_⟩
    have c := World.ownsRow.cells (g := g) hh rfl i (.string ⟨x.toArray⟩) (by unfold strsC; rw [List.getElem?_map, hx]; rfl)
    rw [show (⟨g, 0, none⟩ : Addr).add i = ⟨g, i, none⟩ from by unfold Addr.add; split <;> simp_all] at c
    rw [Has.cell (show Has W g 9 cur from hg)] at c
    exact c
theorem Strs.own (h : Strs W n0 v l) : ∀ g, v.ownBlock = some g → n0 ≤ g ∧ ∃ cs, Has W g 9 cs := by
  intro g hg
  rcases h.2 with ⟨rfl, _⟩ | ⟨g', cap, cur, rfl, hb, hh, r⟩
  · cases hg
  · obtain rfl : g' = g := by simpa [Value.ownBlock] using hg
    exact ⟨hb, cur, hh⟩
theorem Strs.below (h : Strs W n0 v l) (hb : Below W.heap.size W W') : Strs W' n0 v l := by
  refine ⟨h.1, ?_⟩
  rcases h.2 with h | ⟨g, cap, cur, rfl, hb', hg, r⟩
  · exact .inl h
  · exact .inr ⟨g, cap, cur, rfl, hb', (hb.block g (Array.getElem?_eq_some_iff.1 hg).1).trans hg, r⟩
theorem Strs.mono (h : Strs W n0 v l) {n1 : Nat} (hn : n1 ≤ n0) : Strs W n1 v l := by
  refine ⟨h.1, ?_⟩
  rcases h.2 with h | ⟨g, cap, cur, rfl, hb', r⟩
  · exact .inl h
  · exact .inr ⟨g, cap, cur, rfl, by omega, r⟩
end
theorem infoStr : (Tryz.prog.info? 9).map (fun i => (i.zero, i.size, i.bytes)) = some (some (.string ⟨#[]⟩), 1, 16) := by kernel_rfl
theorem info_str : ∃ i, Tryz.prog.info? 9 = some i ∧ i.zero = some (.string ⟨#[]⟩) ∧ i.size = 1 ∧ i.bytes = 16 := by
  have h := infoStr
  cases hi : Tryz.prog.info? 9 with
  | none => rw [hi] at h; cases h
  | some i =>
    rw [hi] at h
    simp at h
    exact ⟨i, rfl, h⟩
section
variable {w : World} {ops : Array Oper} {rest : List Oper} {o : Oper} {a : Act} {Q : Exit → Act → World → Prop} {n0 : Nat} {v : Value} {l : List (List UInt8)}
theorem wpList_append_str (hgd : o.guard = none) (s x : Operand) (ho : o.op = .call { callee := .builtin .append, args := #[s, x], argTypes := #[29, 29] }) (hsv : a.eval s = v) (hv : Strs w n0 v l)
    (k : Nat) (t : List UInt8) (hxv : a.eval x = .slice (some ⟨k, 0, none⟩) 1 1) (hx : Has w k 9 #[.string ⟨t.toArray⟩]) (hs : l.length + 1 ≤ 1000000) (hn : n0 ≤ w.heap.size)
    (h : ∀ v' w', Strs w' n0 v' (l ++ [t]) → w.grownBy w' v.ownBlock → wpList Tryz.prog ops Q rest (a.put o.dst v') w') : wpList Tryz.prog ops Q (o :: rest) a w := by
  obtain ⟨i, hi, hz, hz1, hz2⟩ := info_str
  refine wpList_append_own_at w hgd s x 29 ho n0 9 i (.string ⟨#[]⟩) 1 16 Tryz.underlying29 hi hz hz1 hz2 rfl (by decide) v l.length (strsC l) hsv hv ⟨k, 0, none⟩ 1 1 [.string ⟨t.toArray⟩] hxv rfl (fun j u hu => ?_) (by intro u hu; rw [List.mem_singleton.1 hu]; rfl) (by simp only [maxLen]; omega) (by omega) hn (fun v' w' h1 h2 _ _ => h v' w' ?_ h2)
  · have hj : j = 0 := by
      have := (List.getElem?_eq_some_iff.1 hu).1
      simp at this
      omega
    subst hj
    have e : (⟨k, 0, none⟩ : Addr).add 0 = ⟨k, 0, none⟩ := by unfold Addr.add; split <;> simp_all
    rw [e, hx.cell]
    simpa using hu
  · unfold Strs
    rw [List.length_append, List.length_singleton, show strsC (l ++ [t]) = strsC l ++ [.string ⟨t.toArray⟩] by simp [strsC]]
    exact h1
end
theorem grown_str {X Y : World} {v : Value} {l : List (List UInt8)} {n0 k : Nat} {t : TypeId} {cs : Array Value} (h : Has X k t cs) (hf : Strs X n0 v l) (hg : X.grownBy Y v.ownBlock) (ht : t ≠ 9) : Has Y k t cs :=
  (hg.block k h.lt (fun e => by
    obtain ⟨_, cs', hc⟩ := hf.own k e.symm
    have : Obj.cells cs t (0, 0) = .cells cs' 9 (0, 0) := by
      have e1 : X.heap[k]? = some (.cells cs t (0, 0)) := h
      have e2 : X.heap[k]? = some (.cells cs' 9 (0, 0)) := hc
      rw [e1] at e2
      exact Option.some.inj e2
    injection this with _ h2 _
    exact ht h2)).trans h
/-- Texts in a row. -/
def SL (W : World) (A : Option Addr) (ls : List (List UInt8)) : Prop := ∃ (g : Nat) (cs : Array Value), (0 < ls.length → A = some ⟨g, 0, none⟩ ∧ Has W g 9 cs) ∧ ∀ (j : Nat) (y : List UInt8), ls[j]? = some y → cs[j]? = some (Value.string ⟨y.toArray⟩)
theorem SL.below {W W' : World} {A : Option Addr} {ls : List (List UInt8)} (h : SL W A ls) (hb : Below W.heap.size W W') : SL W' A ls := by
  obtain ⟨g, cs, h1, h2⟩ := h
  exact ⟨g, cs, fun h0 => ⟨(h1 h0).1, (h1 h0).2.below hb (h1 h0).2.lt⟩, h2⟩
theorem Strs.sl {W : World} {n0 : Nat} {v : Value} {ls : List (List UInt8)} (h : Strs W n0 v ls) : ∃ A c, v = .slice A ls.length c ∧ SL W A ls := by
  obtain ⟨A, g, c, cur, rfl, h1, h2⟩ := h.shape
  exact ⟨A, c, rfl, g, cur, fun h0 => ⟨(h1 h0).1, (h1 h0).2.2⟩, h2⟩
/-- The same, where there is one at least. -/
theorem SL.some {W : World} {A : Option Addr} {ls : List (List UInt8)} (h : SL W A ls) (h0 : 0 < ls.length) : ∃ (g : Nat) (cs : Array Value), A = some ⟨g, 0, none⟩ ∧ Has W g 9 cs ∧ ∀ (j : Nat) (y : List UInt8), ls[j]? = some y → cs[j]? = some (Value.string ⟨y.toArray⟩) := by
  obtain ⟨g, cs, h1, h2⟩ := h
  exact ⟨g, cs, (h1 h0).1, (h1 h0).2, h2⟩
def StrsR (ls : List (List UInt8)) (w : World) (e : Ending) (w' : World) : Prop := ∃ v, e = .returned v ∧ Strs w' w.heap.size v ls ∧ Below w.heap.size w w'
end Go.Proofs.YtbmemkbfignlaaaGreatDoor

namespace Go.Proofs.YtbmemkbfignlaaaGreatDoor
open Go.RowKit
attribute [local go_sem] Oper.semAt_some

/-! ## The document's at, part, between -/
theorem byte_eq2 (s : List UInt8) {i : Nat} (h : i < s.length) (k : UInt8) : ((((⟨s.toArray⟩ : ByteArray)[i]'h).toNat : Int) == (k.toNat : Int)) = (s[i] == k) := byte_eq s h k _ rfl
set_option maxRecDepth 100000 in
set_option maxHeartbeats 1000000 in
theorem refAt_any (s : List UInt8) (c : UInt8) (w : World) (hs : s.length ≤ 1000000) : Calls Tryz.prog 57 #[.string ⟨s.toArray⟩, .int .u8 (c.toNat : Int)] w fun e w' => e = .returned (.int .i64 (atL c s : Int)) ∧ w' = w := by
  go_enter Tryz.func57, Tryz.ntmps57
  go_wp2
  go_loopw [5] (fun x W => ∃ i : Nat, i ≤ s.length ∧ x = .int .i64 (i : Int) ∧ atL c s = i + atL c (s.drop i) ∧ W = w) (fun x _ => s.length - (intOf x).toNat)
  case atStart => exact ⟨0, Nat.zero_le _, rfl, by simp, rfl⟩
  case round =>
    obtain ⟨i, hil, rfl, hat, rfl⟩ := hrel
    by_cases hlt : i < s.length
    · have hltI : (i : Int) < (s.length : Int) := by omega
      have e := byte_eq2 s hlt c
      rw [drop_at s hlt] at hat
      by_cases hc : s[i] = c
      · have hat' := Lib.hid (show atL c s = i by rw [hat, atL, if_pos hc]; rfl)
        rw [beq_iff_eq.2 hc] at e
        clear hat hc
        go_wp2
        go_ret
        exact ⟨by rw [hat'.out]; rfl, rfl⟩
      · have hat' := Lib.hid (show atL c s = (i + 1) + atL c (s.drop (i + 1)) by rw [hat, atL, if_neg hc]; omega)
        rw [beq_eq_false_iff_ne.2 hc] at e
        clear hat hc
        go_wp2
        exact ⟨⟨i + 1, by omega, by go_num, hat'.out, trivial⟩, by simp [intOf]; omega⟩
    · obtain rfl : i = s.length := by omega
      have hat' := Lib.hid (show atL c s = s.length by rw [hat, List.drop_of_length_le (Nat.le_refl _)]; rfl)
      clear hat
      go_wp2
      go_ret
      exact ⟨by rw [hat'.out]; rfl, rfl⟩
theorem part_not (l : List UInt8) (h1 : l ≠ [46]) (h2 : l ≠ [46, 46]) : partB l = l.all fun c => decide (c ≠ 47) && decide (c ≠ 0) := by unfold partB; simp [h1, h2]
set_option maxRecDepth 100000 in
set_option maxHeartbeats 1000000 in
theorem refPart_any (s : List UInt8) (w : World) (hs : s.length ≤ 1000000) : Calls Tryz.prog 60 #[.string ⟨s.toArray⟩] w fun e w' => e = .returned (.bool (partB s)) ∧ w' = w := by
  by_cases h1 : s = [46]
  · subst h1
    go_enter Tryz.func60, Tryz.ntmps60
    go_wp2
    go_ret
    exact ⟨rfl, rfl⟩
  by_cases h2 : s = [46, 46]
  · subst h2
    go_enter Tryz.func60, Tryz.ntmps60
    go_wp2
    go_ret
    exact ⟨rfl, rfl⟩
  rw [part_not s h1 h2]
  have e1 : (s == [46]) = false := beq_eq_false_iff_ne.2 h1
  have e2 : (s == [46, 46]) = false := beq_eq_false_iff_ne.2 h2
  clear h1 h2
  go_enter Tryz.func60, Tryz.ntmps60
  go_wp2
  go_loopw [3] (fun x W => ∃ i : Nat, i ≤ s.length ∧ x = .int .i64 (i : Int) ∧ (s.all fun c => decide (c ≠ 47) && decide (c ≠ 0)) = ((s.drop i).all fun c => decide (c ≠ 47) && decide (c ≠ 0)) ∧ W = w) (fun x _ => s.length - (intOf x).toNat)
  case atStart => exact ⟨0, Nat.zero_le _, rfl, by simp, rfl⟩
  case round =>
    obtain ⟨i, hil, rfl, hat, rfl⟩ := hrel
    by_cases hlt : i < s.length
    · have hltI : (i : Int) < (s.length : Int) := by omega
      have e47 := byte_eq s hlt 47 47 rfl
      have e0 := byte_eq s hlt 0 0 rfl
      rw [drop_at s hlt, List.all_cons] at hat
      by_cases hc : s[i] = 47
      · have hat' := Lib.hid (hat.trans (show _ = false by rw [hc]; rfl))
        rw [beq_iff_eq.2 hc] at e47
        clear hat hc e0
        go_wp2
        go_ret
        exact ⟨by rw [hat'.out]; rfl, rfl⟩
      · by_cases hz : s[i] = 0
        · have hat' := Lib.hid (hat.trans (show _ = false by rw [hz]; rfl))
          rw [beq_eq_false_iff_ne.2 hc] at e47
          rw [beq_iff_eq.2 hz] at e0
          clear hat hc hz
          go_wp2
          go_ret
          exact ⟨by rw [hat'.out]; rfl, rfl⟩
        · have hat' := Lib.hid (hat.trans (show _ = (s.drop (i + 1)).all fun c => decide (c ≠ 47) && decide (c ≠ 0) by simp [hc, hz]))
          rw [beq_eq_false_iff_ne.2 hc] at e47
          rw [beq_eq_false_iff_ne.2 hz] at e0
          clear hat hc hz
          go_wp2
          exact ⟨⟨i + 1, by omega, by go_num, hat'.out, trivial⟩, by simp [intOf]; omega⟩
    · obtain rfl : i = s.length := by omega
      have hat' := Lib.hid (hat.trans (show _ = true by rw [List.drop_of_length_le (Nat.le_refl _)]; rfl))
      clear hat
      go_wp2
      go_ret
      exact ⟨by rw [hat'.out]; rfl, rfl⟩
theorem betw_parts (k : UInt8) : ∀ l, betw k l = partsG k l
  | [] => rfl
  | b :: r => by
    unfold betw partsG
    rw [betw_parts k r]
    split
    · rfl
    · cases partsG k r <;> rfl
theorem betw_all {k : UInt8} {l : List UInt8} {p : List UInt8} (h : p ∈ betw k l) : p.length ≤ l.length := by
  induction l generalizing p with
  | nil =>
    obtain rfl : p = [] := by simpa [betw] using h
    exact Nat.le_refl _
  | cons b r ih =>
    unfold betw at h
    rw [List.length_cons]
    split at h
    · rcases List.mem_cons.1 h with rfl | h
      · simp
      · have := ih h; omega
    · cases hb : betw k r with
      | nil =>
        rw [hb] at h
        obtain rfl : p = [b] := by simpa using h
        simp
      | cons x t =>
        rw [hb] at h ih
        rcases List.mem_cons.1 h with rfl | h
        · have := ih (p := x) List.mem_cons_self; simp; omega
        · have := ih (p := p) (List.mem_cons_of_mem _ h); omega
set_option maxRecDepth 100000 in
set_option maxHeartbeats 4000000 in
theorem refBetween_any (l : List UInt8) (c : UInt8) (w : World) (hl : l.length ≤ 100000) : Calls Tryz.prog 58 #[.string ⟨l.toArray⟩, .int .u8 (c.toNat : Int)] w (StrsR (betw c l) w) := by
  unfold StrsR
  rw [betw_parts]
  go_enter Tryz.func58, Tryz.ntmps58
  go_wp2
  go_loopw [5, 6, 7] (fun v f x W => ∃ (done : List (List UInt8)) (fr k : Nat), f = .int .i64 (fr : Int) ∧ x = .int .i64 (k : Int) ∧ k ≤ l.length + 1 ∧ fr ≤ l.length + 1 ∧ PartQ c l done fr k ∧ Strs W w.heap.size v done ∧ Below w.heap.size w W) (fun _ _ x _ => l.length + 1 - (intOf x).toNat)
  case atStart => exact ⟨[], 0, 0, rfl, rfl, Nat.zero_le _, Nat.zero_le _, .inl ⟨Nat.zero_le _, PartS.start c l⟩, strs_nil _ _, Below.refl _ _⟩
  case round =>
    obtain ⟨done, fr, k, rfl, rfl, hk, hfr, hq, hst, hb⟩ := hrel
    obtain ⟨A3, g3, c3, cur3, hv3, _⟩ := hst.shape
    have hfew := hq.few
    obtain ⟨n3, hn3⟩ : ∃ n3, done.length = n3 := ⟨_, rfl⟩
    rw [hn3] at hv3 hfew
    subst hv3
    have hn3' := Lib.hid hn3
    have hq' := Lib.hid hq
    have hst' := Lib.hid hst
    have hb' := Lib.hid hb
    clear hn3 hq hst hb
    by_cases hle : k ≤ l.length
    · have hleI : (k : Int) ≤ (l.length : Int) := by omega
      have hP := Lib.hid (show PartS c l done fr k from hq'.out.elim (fun h => h.2) (fun h => by omega))
      have hfk := hP.out.le
      have hfkI : (fr : Int) ≤ (k : Int) := by omega
      have hx1 := exE1 l fr k
      obtain ⟨t, ht⟩ : ∃ t, (l.drop fr).take (k - fr) = t := ⟨_, rfl⟩
      rw [ht] at hx1
      have hz3 := hb'.out.size
      have hal := Lib.hid (((Below.refl wr.heap.size wr).alloc (Nat.le_refl _) (.cells #[.string ⟨t.toArray⟩] 9)))
      have hnew := Lib.hid (Has.new wr 9 #[.string ⟨t.toArray⟩])
      have hst2 := Lib.hid (hst'.out.below hal.out)
      have hcase : (k = l.length ∧ PartQ c l (done ++ [t]) (k + 1) (k + 1)) ∨ (∃ hlt : k < l.length, l[k] = c ∧ PartQ c l (done ++ [t]) (k + 1) (k + 1)) ∨ (∃ hlt : k < l.length, l[k] ≠ c ∧ PartQ c l done fr (k + 1)) := by
        by_cases heq : k = l.length
        · refine .inl ⟨heq, .inr ⟨by omega, ?_⟩⟩
          subst heq
          rw [hP.out.end, ← ht, List.take_of_length_le (by simp)]
        · have hlt : k < l.length := by omega
          by_cases hc : l[k] = c
          · exact .inr (.inl ⟨hlt, hc, .inl ⟨by omega, by rw [← ht]; exact hP.out.cut hlt hc⟩⟩)
          · exact .inr (.inr ⟨hlt, hc, .inl ⟨by omega, hP.out.next hlt hc⟩⟩)
      clear ht
      rcases hcase with ⟨heq, hnx⟩ | ⟨hlt, hc, hnx⟩ | ⟨hlt, hc, hnx⟩
      · subst heq
        have hnl : ¬ (l.length : Int) < (l.length : Int) := by omega
        have hnx' := Lib.hid hnx
        clear hnx
        go_wp2_with (at_builtin; refine wpList_append_str rfl _ _ rfl rfl hst2.out _ t rfl hnew.out (by rw [hn3'.out]; omega) (by simp; omega) ?_; intro v4 w4 ho4 hg4; have ho4' := Lib.hid ho4; have hg4' := Lib.hid hg4; clear ho4 hg4)
        exact ⟨⟨done ++ [t], l.length + 1, l.length + 1, by go_num, by go_num, by omega, by omega, hnx'.out, ho4'.out, ((hb'.out.trans (hal.out.mono hz3)).grown hg4'.out (by simp; omega) (fun g e => (hst2.out.own g e).1))⟩, by simp [intOf]⟩
      · have hltI : (k : Int) < (l.length : Int) := by omega
        have hce := byte_eq2 l hlt c
        rw [beq_iff_eq.2 hc] at hce
        have hnx' := Lib.hid hnx
        clear hnx hc
        go_wp2_with (at_builtin; refine wpList_append_str rfl _ _ rfl rfl hst2.out _ t rfl hnew.out (by rw [hn3'.out]; omega) (by simp; omega) ?_; intro v4 w4 ho4 hg4; have ho4' := Lib.hid ho4; have hg4' := Lib.hid hg4; clear ho4 hg4)
        exact ⟨⟨done ++ [t], k + 1, k + 1, by go_num, by go_num, by omega, by omega, hnx'.out, ho4'.out, ((hb'.out.trans (hal.out.mono hz3)).grown hg4'.out (by simp; omega) (fun g e => (hst2.out.own g e).1))⟩, by simp [intOf]; omega⟩
      · have hltI : (k : Int) < (l.length : Int) := by omega
        have hce := byte_eq2 l hlt c
        rw [beq_eq_false_iff_ne.2 hc] at hce
        have hnx' := Lib.hid hnx
        clear hnx hc
        go_wp2_with fail
        exact ⟨⟨done, fr, k + 1, rfl, by go_num, by omega, hfr, hnx'.out, hst'.out, hb'.out⟩, by simp [intOf]; omega⟩
    · have hgt : decide ((k : Int) ≤ (l.length : Int)) = false := decide_eq_false (by omega)
      have hgt2 : decide (k ≤ l.length) = false := decide_eq_false hle
      have hd := Lib.hid (show done = partsG c l from hq'.out.elim (fun h => absurd h.1 hle) (fun h => h.2))
      go_wp2_with fail
      go_ret
      exact ⟨_, rfl, by rw [← hd.out]; exact hst'.out, hb'.out⟩
end Go.Proofs.YtbmemkbfignlaaaGreatDoor

namespace Go.Proofs.YtbmemkbfignlaaaGreatDoor
open Go.RowKit
attribute [local go_sem] Oper.semAt_some

/-! ## Targets in memory; the document's pair -/
/-- Texts from an address on. -/
def Txs (W : World) (A : Option Addr) (ls : List (List UInt8)) : Prop := 0 < ls.length → ∃ b o, A = some ⟨b, o, none⟩ ∧ b < W.heap.size ∧ ∀ (i : Nat) (x : List UInt8), ls[i]? = some x → W.cell? ⟨b, o + i, none⟩ = some (.string ⟨x.toArray⟩)
/-- Pairs from an address on. -/
def Prs (W : World) (A : Option Addr) (qs : List PairL) : Prop := 0 < qs.length → ∃ b o, A = some ⟨b, o, none⟩ ∧ b < W.heap.size ∧ ∀ (i : Nat) (q : PairL), qs[i]? = some q → W.cell? ⟨b, o + i * 2, none⟩ = some (.string ⟨q.1.toArray⟩) ∧ W.cell? ⟨b, o + i * 2 + 1, none⟩ = some (.string ⟨q.2.toArray⟩)
theorem Txs.below {w W : World} {A : Option Addr} {ls : List (List UInt8)} (h : Txs w A ls) (hb : Below w.heap.size w W) : Txs W A ls := fun h0 => by
  obtain ⟨b, o, rfl, hlt, hc⟩ := h h0
  exact ⟨b, o, rfl, Nat.lt_of_lt_of_le hlt hb.size, fun i x hx => (World.cell?_of_block (hb.block b hlt)).trans (hc i x hx)⟩
theorem Prs.below {w W : World} {A : Option Addr} {qs : List PairL} (h : Prs w A qs) (hb : Below w.heap.size w W) : Prs W A qs := fun h0 => by
  obtain ⟨b, o, rfl, hlt, hc⟩ := h h0
  refine ⟨b, o, rfl, Nat.lt_of_lt_of_le hlt hb.size, fun i x hx => ?_⟩
  obtain ⟨h1, h2⟩ := hc i x hx
  exact ⟨(World.cell?_of_block (hb.block b hlt)).trans h1, (World.cell?_of_block (hb.block b hlt)).trans h2⟩
/-- A target as a value. -/
def TgV (W : World) (v : Value) (t : TgL) : Prop := ∃ A1 c1 A2 c2, v = .agg #[.slice A1 t.1.length c1, .slice A2 t.2.length c2] ∧ Txs W A1 t.1 ∧ Prs W A2 t.2
theorem TgV.below {w W : World} {v : Value} {t : TgL} (h : TgV w v t) (hb : Below w.heap.size w W) : TgV W v t := by
  obtain ⟨A1, c1, A2, c2, rfl, h1, h2⟩ := h
  exact ⟨A1, c1, A2, c2, rfl, h1.below hb, h2.below hb⟩
def pairV (o : Option PairL) : Value := match o with
  | some q => .tuple #[.agg #[.string ⟨q.1.toArray⟩, .string ⟨q.2.toArray⟩], .int .i64 0]
  | none => .tuple #[.agg #[.string ⟨#[]⟩, .string ⟨#[]⟩], .int .i64 210]
def PairR (o : Option PairL) (w : World) (e : Ending) (w' : World) : Prop := e = .returned (pairV o) ∧ Below w.heap.size w w'
theorem cut_to (s : List UInt8) (n : Nat) : (⟨s.toArray⟩ : ByteArray).extract 0 n = ⟨(s.take n).toArray⟩ := by rw [cut_str, List.drop_zero]
theorem cut_from (s : List UInt8) (n : Nat) : (⟨s.toArray⟩ : ByteArray).extract n s.length = ⟨(s.drop n).toArray⟩ := by rw [cut_str, List.take_length]
set_option maxRecDepth 100000 in
set_option maxHeartbeats 4000000 in
theorem refPair_any (s : List UInt8) (w : World) (hs : s.length ≤ 1000000) : Calls Tryz.prog 61 #[.string ⟨s.toArray⟩] w (PairR (pairL s) w) := by
  unfold PairR pairL
  have h0 := Lib.hid (fun W => show Calls Tryz.prog 57 #[.string ⟨s.toArray⟩, .int .u8 61] W fun e w' => e = .returned (.int .i64 (atL 61 s : Int)) ∧ w' = W from refAt_any s 61 W hs)
  have hle := atL_le 61 s
  generalize atL 61 s = n at *
  have h1 := Lib.hid (fun W => show Calls Tryz.prog 59 #[.string ((⟨s.toArray⟩ : ByteArray).extract 0 n), .bool true] W (DecR (decL true (s.take n)) W) by rw [cut_to]; exact refDecode_any true (s.take n) W (by simp; omega))
  rcases Nat.lt_or_ge n s.length with hlt | hge
  · have hnI : (n : Int) + 1 ≤ (s.length : Int) := by omega
    have h2 := Lib.hid (fun W => show Calls Tryz.prog 59 #[.string ((⟨s.toArray⟩ : ByteArray).extract (n + 1) s.length), .bool true] W (DecR (decL true (s.drop (n + 1))) W) by rw [cut_from]; exact refDecode_any true _ W (by simp; omega))
    have hleI : (n : Int) ≤ (s.length : Int) := by omega
    unfold DecR at h1 h2
    have hal := Lib.hid ((Below.refl w.heap.size w).alloc (Nat.le_refl _) (.cells #[.string ⟨#[]⟩, .string ⟨#[]⟩] 88))
    have hnew := Lib.hid (Has.new w 88 #[.string ⟨#[]⟩, .string ⟨#[]⟩])
    have hz1 : (w.alloc (.cells #[.string ⟨#[]⟩, .string ⟨#[]⟩] 88)).heap.size = w.heap.size + 1 := by simp
    generalize hd1 : decL true (s.take n) = d1 at *
    generalize hd2 : decL true (s.drop (n + 1)) = d2 at *
    clear hd1 hd2
    cases d1 <;> cases d2 <;> simp only [decV] at h1 h2
    all_goals
      go_enter Tryz.func61, Tryz.ntmps61
      go_wp2_with (first
        | (go_at_call 57; (with_reducible refine Calls.mono (h0.out _) ?_); rintro e w7 ⟨rfl, hw7⟩; obtain rfl := hw7.symm)
        | (go_at_call 59; (with_reducible refine Calls.mono (h1.out _) ?_); rintro e w2 ⟨rfl, hb2⟩; have hB2 := Lib.hid (hal.out.trans (hb2.mono (by omega))); have hn2 := Lib.hid (hnew.out.below hb2 hnew.out.lt); have hz2 := hb2.size; clear hb2)
        | (go_at_call 59; (with_reducible refine Calls.mono (h2.out _) ?_); rintro e w3 ⟨rfl, hb3⟩; have hB3 := Lib.hid (hB2.out.trans (hb3.mono (by omega))); have hn3 := (hn2.out.below hb3 hn2.out.lt); have c0 := hn3.cell 0; have c1 := hn3.cell 1; have f0 := hn3.free 0; have f1 := hn3.free 1; have hn3' := Lib.hid hn3; clear hb3 hn3))
      have y0 : ∀ a b, ((w3.setCell ⟨w.heap.size, 0, none⟩ a).setCell ⟨w.heap.size, 1, none⟩ b).cell? ⟨w.heap.size, 0, none⟩ = some a := fun a b => ((hn3'.out.put 0 a).put 1 b).cell 0
      have y1 : ∀ a b, ((w3.setCell ⟨w.heap.size, 0, none⟩ a).setCell ⟨w.heap.size, 1, none⟩ b).cell? ⟨w.heap.size, 1, none⟩ = some b := fun a b => ((hn3'.out.put 0 a).put 1 b).cell 1
      refine bodyPost_ret (v := _) (by simp only [results, Tryz.results61]; simp [go_sem, y0, y1]; rfl) rfl ⟨rfl, (hB3.out.setCell (p := ⟨w.heap.size, 0, none⟩) (Nat.le_refl _) _).setCell (p := ⟨w.heap.size, 1, none⟩) (Nat.le_refl _) _⟩
  · have hnI : ¬ (n : Int) + 1 ≤ (s.length : Int) := by omega
    have h2 := Lib.hid (fun W => show Calls Tryz.prog 59 #[.string ByteArray.empty, .bool true] W (DecR (decL true (s.drop (n + 1))) W) by rw [List.drop_of_length_le (by omega)]; exact refDecode_any true [] W (by simp))
    have hleI : (n : Int) ≤ (s.length : Int) := by omega
    unfold DecR at h1 h2
    have hal := Lib.hid ((Below.refl w.heap.size w).alloc (Nat.le_refl _) (.cells #[.string ⟨#[]⟩, .string ⟨#[]⟩] 88))
    have hnew := Lib.hid (Has.new w 88 #[.string ⟨#[]⟩, .string ⟨#[]⟩])
    have hz1 : (w.alloc (.cells #[.string ⟨#[]⟩, .string ⟨#[]⟩] 88)).heap.size = w.heap.size + 1 := by simp
    generalize hd1 : decL true (s.take n) = d1 at *
    generalize hd2 : decL true (s.drop (n + 1)) = d2 at *
    clear hd1 hd2
    cases d1 <;> cases d2 <;> simp only [decV] at h1 h2
    all_goals
      go_enter Tryz.func61, Tryz.ntmps61
      go_wp2_with (first
        | (go_at_call 57; (with_reducible refine Calls.mono (h0.out _) ?_); rintro e w7 ⟨rfl, hw7⟩; obtain rfl := hw7.symm)
        | (go_at_call 59; (with_reducible refine Calls.mono (h1.out _) ?_); rintro e w2 ⟨rfl, hb2⟩; have hB2 := Lib.hid (hal.out.trans (hb2.mono (by omega))); have hn2 := Lib.hid (hnew.out.below hb2 hnew.out.lt); have hz2 := hb2.size; clear hb2)
        | (go_at_call 59; (with_reducible refine Calls.mono (h2.out _) ?_); rintro e w3 ⟨rfl, hb3⟩; have hB3 := Lib.hid (hB2.out.trans (hb3.mono (by omega))); have hn3 := (hn2.out.below hb3 hn2.out.lt); have c0 := hn3.cell 0; have c1 := hn3.cell 1; have f0 := hn3.free 0; have f1 := hn3.free 1; have hn3' := Lib.hid hn3; clear hb3 hn3))
      have y0 : ∀ a b, ((w3.setCell ⟨w.heap.size, 0, none⟩ a).setCell ⟨w.heap.size, 1, none⟩ b).cell? ⟨w.heap.size, 0, none⟩ = some a := fun a b => ((hn3'.out.put 0 a).put 1 b).cell 0
      have y1 : ∀ a b, ((w3.setCell ⟨w.heap.size, 0, none⟩ a).setCell ⟨w.heap.size, 1, none⟩ b).cell? ⟨w.heap.size, 1, none⟩ = some b := fun a b => ((hn3'.out.put 0 a).put 1 b).cell 1
      refine bodyPost_ret (v := _) (by simp only [results, Tryz.results61]; simp [go_sem, y0, y1]; rfl) rfl ⟨rfl, (hB3.out.setCell (p := ⟨w.heap.size, 0, none⟩) (Nat.le_refl _) _).setCell (p := ⟨w.heap.size, 1, none⟩) (Nat.le_refl _) _⟩
end Go.Proofs.YtbmemkbfignlaaaGreatDoor
