import Derived.Test.YtbmemkbfignlaaaGreatDoorPk14
import Derived.Shelf.GgClosure.Gives
namespace Go.Proofs.YtbmemkbfignlaaaGreatDoor
open Go.RowKit Go.Shelf
attribute [local go_sem] Oper.semAt_some

/-! ## What stands between bytes, as the library cuts it -/
theorem betw_index (k : UInt8) : ∀ s : List UInt8, (Lib.index s [k] = -1 → betw k s = [s]) ∧ (∀ i : Nat, Lib.index s [k] = i → betw k s = s.take i :: betw k (s.drop (i + 1)))
  | [] => ⟨fun _ => rfl, fun i h => by simp [Lib.index] at h⟩
  | b :: r => by
    obtain ⟨ih1, ih2⟩ := betw_index k r
    have hge := Lib.index_ge r [k]
    by_cases hb : b = k
    · subst hb
      have h0 : Lib.index (b :: r) [b] = 0 := by simp [Lib.index, List.isPrefixOf]
      refine ⟨fun h => by omega, fun i h => ?_⟩
      obtain rfl : i = 0 := by omega
      simp [betw]
    · have hp : ([k] : List UInt8).isPrefixOf (b :: r) = false := by simp [List.isPrefixOf]; exact fun e => hb e.symm
      have hi : Lib.index (b :: r) [k] = if Lib.index r [k] == -1 then -1 else Lib.index r [k] + 1 := by
        conv => lhs; unfold Lib.index
        rw [hp]; rfl
      rw [hi]
      by_cases hm : Lib.index r [k] = -1
      · rw [if_pos (beq_iff_eq.2 hm)]
        refine ⟨fun _ => ?_, fun i h => by omega⟩
        unfold betw
        rw [if_neg hb, ih1 hm]
      · rw [if_neg (fun e => hm (beq_iff_eq.1 e))]
        refine ⟨fun h => by omega, fun i h => ?_⟩
        obtain ⟨j, rfl⟩ : ∃ j, i = j + 1 := ⟨i - 1, by omega⟩
        conv => lhs; unfold betw
        rw [if_neg hb, ih2 j (by omega)]
        simp
theorem betw_split (k : UInt8) (n : Nat) : ∀ s : List UInt8, s.length ≤ n → Lib.splitK [k] 0 (Lib.count s [k]) s = betw k s ∧ Lib.count s [k] + 1 = (betw k s).length := by
  induction n with
  | zero =>
    intro s hs
    obtain rfl : s = [] := List.length_eq_zero_iff.1 (by omega)
    exact ⟨rfl, rfl⟩
  | succ n ih =>
    intro s hs
    obtain ⟨h1, h2⟩ := betw_index k s
    by_cases hm : Lib.index s [k] = -1
    · rw [Lib.count_miss hm, h1 hm]
      exact ⟨rfl, rfl⟩
    · have hge := Lib.index_ge s [k]
      obtain ⟨i, hi⟩ : ∃ i : Nat, Lib.index s [k] = i := ⟨(Lib.index s [k]).toNat, by omega⟩
      have hr := Lib.index_room s [k] (by omega)
      obtain ⟨a, b⟩ := ih (s.drop (i + 1)) (by rw [List.length_drop]; simp at hr; omega)
      rw [Lib.count_hit (by simp) hi, h2 i hi]
      constructor
      · rw [show 1 + Lib.count (s.drop (i + ([k] : List UInt8).length)) [k] = Lib.count (s.drop (i + 1)) [k] + 1 from by simp; omega]
        unfold Lib.splitK
        rw [if_neg (fun e => hm (beq_iff_eq.1 e)), hi]
        simp only [Int.toNat_natCast, Nat.add_zero]
        exact congrArg _ a
      · show 1 + Lib.count (s.drop (i + 1)) [k] + 1 = (betw k (s.drop (i + 1))).length + 1
        omega
def SplitR (l : List (List UInt8)) (w : World) (e : Ending) (w' : World) : Prop := e = .returned (.slice (some ⟨w.heap.size, 0, none⟩) l.length l.length) ∧ Has w' w.heap.size 9 (strsC l).toArray ∧ Below w.heap.size w w'
theorem splitT_any (k : UInt8) (t : List UInt8) (w : World) (hl : t.length ≤ 600000) (hM : MaxT w) : Calls Tryz.prog 97 #[.string ⟨t.toArray⟩, .string ⟨#[k]⟩] w (SplitR (betw k t) w) := by
  obtain ⟨m, hm⟩ := hM
  have hsp := Tryz.strings_Split ⟨t.toArray⟩ ⟨#[k]⟩ m w (by show t.length < _; omega) (hm.cell 0) (by show 1 ≤ 1; omega)
  obtain ⟨h1, h2⟩ := betw_split k t.length t (Nat.le_refl _)
  have hd := Lib.splitB_data ⟨#[k]⟩ 0 (Lib.countB ⟨t.toArray⟩ ⟨#[k]⟩) ⟨t.toArray⟩
  have hc : Lib.countB ⟨t.toArray⟩ ⟨#[k]⟩ = Lib.count t [k] := rfl
  rw [hc] at hd hsp
  have hd : (Lib.splitB ⟨#[k]⟩ 0 (Lib.count t [k]) ⟨t.toArray⟩).map (·.data.toList) = betw k t := hd.trans h1
  rw [h2] at hsp
  generalize Lib.splitB ⟨#[k]⟩ 0 (Lib.count t [k]) ⟨t.toArray⟩ = bs at hd hsp
  refine hsp.mono ?_
  rintro e w' ⟨rfl, rfl⟩
  refine ⟨rfl, ?_, (Below.refl _ _).alloc (Nat.le_refl _) _⟩
  have e : bs.map Value.string = strsC (betw k t) := by
    rw [← hd]
    unfold strsC
    rw [List.map_map]
    rfl
  rw [e]
  exact Has.new _ _ _
/-! ## What is empty is left out -/
def encT (x : List UInt8) : Value := .string ⟨x.toArray⟩
theorem emptyT_any (x : List UInt8) (W : World) : Calls Tryz.prog 98 #[encT x] W fun e w' => e = .returned (.bool (x == [])) ∧ w' = W := by
  unfold encT
  obtain ⟨b, hb⟩ : ∃ b, x.isEmpty = b := ⟨_, rfl⟩
  have hb2 : (x == []) = b := by rw [← hb]; cases x <;> rfl
  rw [hb2]
  clear hb2
  cases b
  all_goals
    go_enter Tryz.func98, Tryz.ntmps98
    go_wp2
    go_ret
    exact ⟨rfl, rfl⟩
theorem strsC_get (l : List (List UInt8)) (j : Nat) : (strsC l)[j]? = (l[j]?).map encT := by
  unfold strsC
  rw [List.getElem?_map]
  rfl
def DelR (l : List (List UInt8)) (g : Nat) (w : World) (e : Ending) (w' : World) : Prop := e = .returned (.slice (some ⟨g, 0, none⟩) (qsL l).length l.length) ∧ Txs w' (some ⟨g, 0, none⟩) (qsL l) ∧ Grew g w w'
theorem delT_any (l : List (List UInt8)) (g : Nat) (w : World) (hg : Has w g 9 (strsC l).toArray) (hl : l.length ≤ 900000) : Calls Tryz.prog 96 #[.slice (some ⟨g, 0, none⟩) l.length l.length, .func (.func 98) #[] #[]] w (DelR l g w) := by
  have hgive : ∀ (W : World) (x : List UInt8), FnGives Tryz.prog 98 #[] #[encT x] (.bool (x == [])) W := fun W x => (emptyT_any x W).mono fun e w' ⟨h1, h2⟩ => ⟨h1, 0, h2⟩
  have hH : Sort.Holds encT w g 0 l.toArray := fun j hj => by
    have hj' : j < l.length := by simpa using hj
    refine ⟨?_, by rw [Nat.zero_add]; exact hg.free j⟩
    rw [Nat.zero_add, hg.cell, List.getElem?_toArray, strsC_get, List.getElem?_eq_getElem hj', getElem!_pos l.toArray j hj]
    simp
  have h := Tryz.slices_DeleteFunc encT (fun _ => rfl) (fun x => x == []) 98 #[] (enters_of Tryz.func98 (by kernel_rfl) rfl) [] (fun _ => by kernel_rfl) g 0 l.length l.toArray w (fun W x _ => hgive W x) (fun n os dk x _ => hgive _ x) hH (by simp; omega) (by simp)
  have hq : (l.toArray.toList.filter fun x => !(x == [])) = qsL l := by
    unfold qsL
    simp only
    congr 1
    funext x
    cases x <;> rfl
  simp only [List.size_toArray] at h
  rw [hq] at h
  refine h.mono ?_
  rintro e w' ⟨rfl, q, rfl⟩
  have hle : (qsL l).length ≤ l.length := by unfold qsL; exact List.length_filter_le _ _
  have hH2 : Sort.Holds encT (Sort.ahead w q) g 0 l.toArray := hH
  refine ⟨rfl, fun _ => ⟨g, 0, rfl, by simp; exact hg.lt, fun i x hx => ?_⟩, ?_⟩
  · have hi : i < (qsL l).length := (List.getElem?_eq_some_iff.1 hx).1
    have := Sort.cell?_putRow encT (Sort.ahead w q) g 0 l.toArray ((qsL l) ++ List.replicate (l.length - (qsL l).length) []).toArray hH2 (by simp; omega) i (by simp; omega)
    rw [this]
    congr 1
    rw [getElem!_pos _ i (by simp; omega)]
    have hx2 := (List.getElem?_eq_some_iff.1 hx).2
    simp [hi, hx2, encT]
  · refine ⟨rfl, rfl, rfl, by simp, fun i hi hne => ?_⟩
    have : g ≠ i := fun e => hne e.symm
    simp [Sort.putRow, Sort.mapBlock, Sort.ahead, Array.getElem?_modify, this]
end Go.Proofs.YtbmemkbfignlaaaGreatDoor
