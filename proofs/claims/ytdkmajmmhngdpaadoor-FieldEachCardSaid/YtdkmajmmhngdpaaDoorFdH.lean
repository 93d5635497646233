import Derived.Test.YtdkmajmmhngdpaaDoorFdG
namespace Go.Proofs.YtdkmajmmhngdpaaDoor
open Go.RowKit Go.Maps

/-! ## Name; num -/
def nameF (z : Int) : List UInt8 := if z < 0 then [] else namesL.getD z.toNat []
set_option maxRecDepth 100000 in
theorem nameF_any (z : Int) (w : World) (hN : NamesT w) : Calls Tryd.prog 33 #[.int .i64 z] w fun e w' => e = .returned (.string ⟨(nameF z).toArray⟩) ∧ w = w' := by
  by_cases h0 : z < 0
  · have e : nameF z = [] := by unfold nameF; rw [if_pos h0]
    rw [e]
    clear hN e
    go_enter Tryd.func33, Tryd.ntmps33
    go_wp2
    go_ret
    exact ⟨rfl, rfl⟩
  · by_cases h8 : 8 ≤ z
    · have e : nameF z = [] := by
        unfold nameF
        rw [if_neg h0]
        rw [List.getD_eq_getElem?_getD, List.getElem?_eq_none (by show 8 ≤ z.toNat; omega)]
        rfl
      rw [e]
      clear hN e
      go_enter Tryd.func33, Tryd.ntmps33
      go_wp2
      go_ret
      exact ⟨rfl, rfl⟩
    · obtain ⟨n, rfl⟩ : ∃ n : Nat, z = (n : Int) := ⟨z.toNat, by omega⟩
      have hn : n < 8 := by omega
      obtain ⟨t, hn'⟩ := hN
      have e : nameF (n : Int) = namesL.getD n [] := by unfold nameF; rw [if_neg (by omega)]; rfl
      have hc : w.cell? ⟨1, n, none⟩ = some (.string ⟨(namesL.getD n []).toArray⟩) := by
        rw [cell_of_row w 1 n _ t (0, 0) hn']
        match n, hn with
        | 0, _ => rfl
        | 1, _ => rfl
        | 2, _ => rfl
        | 3, _ => rfl
        | 4, _ => rfl
        | 5, _ => rfl
        | 6, _ => rfl
        | 7, _ => rfl
      rw [e]
      have hlt : (n : Int) < 8 := by omega
      have hge : (0 : Int) ≤ (n : Int) := by omega
      clear hn' e h0 h8
      go_enter Tryd.func33, Tryd.ntmps33
      go_wp2
      go_ret
      exact ⟨rfl, rfl⟩
theorem numFd_any (e : Int) (w : World) : Calls Tryd.prog 32 #[.int .i64 e] w fun r w' => r = .returned (.int .i64 e) ∧ w = w' := by
  go_enter Tryd.func32, Tryd.ntmps32
  go_wp2
  go_ret
  exact ⟨rfl, rfl⟩
/-! ## What a line says is said by its Line -/
theorem index_one (l : List UInt8) (c : UInt8) : Lib.index l [c] = Lib.indexByte l c := by
  induction l with
  | nil => rfl
  | cons b r ih =>
    unfold Lib.index Lib.indexByte
    rw [ih]
    by_cases h : b = c
    · subst h; simp
    · have h' : ¬ c = b := fun e => h e.symm
      simp [h, h']
/-- Cut at the first colon. -/
def cutC : List UInt8 → List UInt8 × List UInt8 × Bool
  | [] => ([], [], false)
  | b :: r => if b = 58 then ([], r, true) else (b :: (cutC r).1, (cutC r).2.1, (cutC r).2.2)
theorem cut_cutC : ∀ (l : List UInt8), Lib.cut l [58] = cutC l
  | [] => rfl
  | b :: r => by
    have ih := cut_cutC r
    have hg := Lib.indexByte_ge r 58
    unfold Lib.cut at ih ⊢
    rw [index_one] at ih ⊢
    unfold cutC
    by_cases h : b = 58
    · subst h; simp [Lib.indexByte]
    · have hib : Lib.indexByte (b :: r) 58 = if Lib.indexByte r 58 = -1 then -1 else Lib.indexByte r 58 + 1 := by simp [Lib.indexByte, h]
      rw [hib, if_neg h, ← ih]
      by_cases h1 : Lib.indexByte r 58 = -1
      · simp [h1]
      · have h0 : 0 ≤ Lib.indexByte r 58 := by omega
        have h2 : (Lib.indexByte r 58 + 1).toNat = (Lib.indexByte r 58).toNat + 1 := by omega
        have h3 : 0 ≤ Lib.indexByte r 58 + 1 := by omega
        simp only [if_neg h1, if_pos h0, if_pos h3, h2]
        simp []
theorem cutC_no : ∀ (l : List UInt8), 58 ∉ (cutC l).1
  | [] => by simp [cutC]
  | b :: r => by
    unfold cutC
    split
    · simp
    · rename_i h
      simp only [List.mem_cons, not_or]
      exact ⟨fun e => h e.symm, cutC_no r⟩
theorem cutC_of : ∀ (a b : List UInt8), 58 ∉ a → cutC (a ++ 58 :: b) = (a, b, true)
  | [], b, _ => by simp [cutC]
  | x :: a, b, h => by
    simp only [List.mem_cons, not_or] at h
    simp only [List.cons_append, cutC]
    rw [if_neg (fun e => h.1 e.symm), cutC_of a b h.2]
theorem cutC_none : ∀ (a : List UInt8), 58 ∉ a → cutC a = (a, [], false)
  | [], _ => rfl
  | x :: a, h => by
    simp only [List.mem_cons, not_or] at h
    simp only [cutC]
    rw [if_neg (fun e => h.1 e.symm), cutC_none a h.2]
end Go.Proofs.YtdkmajmmhngdpaaDoor
