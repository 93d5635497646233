import Derived.Test.YtajdlkohnafbeaaN
namespace Go.Proofs.Ytajdlkohnafbeaa
open Go.RowKit

/-! ## The document's Set -/
theorem own_put {W : World} {B n cap b j : Nat} {zs : List Int} {z : Int} (h : W.ownsRow B 3 1 (.slice (some ⟨b, 0, none⟩) n cap) n (ints zs)) : (W.setCell ⟨b, j, none⟩ (.int .i64 z)).ownsRow B 3 1 (.slice (some ⟨b, 0, none⟩) n cap) n (ints (zs.set j z)) := by
  have := (World.ownsRow.stored h j (.int .i64 z)).1
  have e : (ints zs).set j (.int .i64 z) = ints (zs.set j z) := by simp [ints, List.map_set]
  rw [e] at this
  exact this
def RSetOf (S : Nat → Prop) (first most : Nat) (zs : List Int) (v : Int) (had : Bool) (w : World) (e : Ending) (w' : World) : Prop :=
  ∃ B d, e = .returned (.tuple #[rv B zs.length d first most, .int .i64 v, .bool had]) ∧ Fine w' (fun k => S k ∨ (w.heap.size ≤ k ∧ k < w'.heap.size)) B zs d ∧ Below w.heap.size w w'
set_option maxHeartbeats 1000000 in
theorem refSet_any (A : Option Addr) (l : List Int) (n c first most i : Nat) (x : Int) (S : Nat → Prop) (w : World) (hp : Fine w S A l c) (hS : ∀ k, S k → k < w.heap.size) (hn : l.length = n) (hn2 : n ≤ 4096) (hi : i ≤ 18446744073709551615) :
    Calls Try.prog 26 #[rv A n c first most, .int .u64 (i : Int), .int .i64 x] w (RSetOf S first most (setv first l i x) (got first l i).1 (got first l i).2 w) := by
  have hhas0 := fun w => refHas_any A n c first most i w hn2 hi
  have hp' := Lib.hid hp
  have hS' := Lib.hid hS
  have hn' := Lib.hid hn
  unfold rv at hhas0 ⊢
  by_cases hin : first ≤ i ∧ i < first + n
  · rw [decide_eq_true hin] at hhas0
    have hhas := Lib.hid hhas0
    have hd : i - first < l.length := by omega
    have hgot := Lib.hid (got_yes (vs := l) hin.1 hd)
    obtain ⟨v, hv⟩ : ∃ v, l[i - first]'hd = v := ⟨_, rfl⟩
    rw [hv] at hgot
    obtain ⟨j, hj⟩ : ∃ j, i - first = j := ⟨_, rfl⟩
    have hset : setv first l i x = l.set j x := by unfold setv; rw [if_pos hin.1, hj]
    have hlv := Lib.hid (show l[j]? = some v by rw [← hj, List.getElem?_eq_getElem hd, hv])
    rw [hset, hgot.out]
    have hsub : (i : Int) - (first : Int) = (j : Int) := by omega
    have h1i : (first : Int) ≤ (i : Int) := by omega
    have hjn : (j : Int) < (n : Int) := by omega
    have hjn' := Lib.hid (show j < n by omega)
    have hjb : (j : Int) ≤ 4096 := by omega
    have hn5 := Lib.hid hn2
    clear hp hS hn hd hv hj hset hhas0 hin
    go_enter Try.func26, Try.ntmps26
    go_wp2_with fail
    have k1 := Has.new (w.alloc (.cells #[.slice A n c, .int .u64 (first : Int), .int .i64 (most : Int)] 31)) 31 #[.slice none 0 0, .int .u64 0, .int .i64 0]
    have k0 := (Has.new w 31 #[.slice A n c, .int .u64 (first : Int), .int .i64 (most : Int)]).alloc (.cells #[.slice none 0 0, .int .u64 0, .int .i64 0] 31)
    have hB := ((Below.refl w.heap.size w).alloc (Nat.le_refl _) (.cells #[.slice A n c, .int .u64 (first : Int), .int .i64 (most : Int)] 31)).alloc (by simp) (.cells #[.slice none 0 0, .int .u64 0, .int .i64 0] 31)
    simp only [World.size_alloc] at k1
    generalize (w.alloc (.cells #[.slice A n c, .int .u64 (first : Int), .int .i64 (most : Int)] 31)).alloc (.cells #[.slice none 0 0, .int .u64 0, .int .i64 0] 31) = w2 at k0 k1 hB ⊢
    refine (hhas.out w2).mono ?_
    rintro e w3 ⟨rfl, hB3⟩
    have k03 := Lib.hid (k0.below hB3 k0.lt)
    have k13 := Lib.hid (k1.below hB3 k1.lt)
    have hB4 := Lib.hid (hB.trans (hB3.mono hB.size))
    have e0 : (w3.alloc (.cells #[] 3)).cell? ⟨w.heap.size, 0, none⟩ = some (.slice A n c) := (k03.out.alloc _).cell 0
    have hlt3 := Lib.hid k13.out.lt
    clear k0 k1 hB hB3 hhas
    go_upto_region 4 with (first
      | (at_builtin
         refine wpList_append_ints rfl (.tmp 16) (.tmp 18) rfl w3.heap.size _ 0 w3.heap.size 0 [] rfl rfl (World.ownsRow_made w3 #[] 0 (Nat.le_refl _) (Nat.zero_le _) rfl) A n c l rfl hn'.out S (hp'.out.1.kept (Kept.below (hB4.out.alloc hB4.out.size _) hS'.out)) (by have := hn5.out; omega) (by simp) ?_
         intro g4 c4 w4 o4 gr4
         rw [Nat.zero_add, List.nil_append] at o4
         have o4' := Lib.hid o4
         have hB5 : Hid (Below w3.heap.size w3 w4) := ((Below.refl w3.heap.size w3).alloc (Nat.le_refl _) (.cells #[] 3)).trans (grown_below gr4 (World.ownsRow_made w3 #[] 0 (Nat.le_refl _) (Nat.zero_le _) rfl : (w3.alloc (.cells #[] 3)).ownsRow w3.heap.size 3 1 _ 0 []) (by simp))
         clear o4 gr4)
      | (at_builtin
         trace_state
         sorry))
    have hge : Hid (w.heap.size + 2 ≤ w3.heap.size) := by have := hlt3.out; show _ ≤ _; omega
    have hlt4 := World.ownsRow.lt o4'.out g4 rfl
    have hgg : Hid (w3.heap.size ≤ g4 ∧ g4 < w4.heap.size) := hlt4
    have k04 := Lib.hid (k03.out.below hB5.out k03.out.lt)
    have k14 := Lib.hid (k13.out.below hB5.out k13.out.lt)
    have cv : w4.cell? ⟨g4, j, none⟩ = some (.int .i64 v) := own_at o4'.out hlv.out
    have fv : w4.frozen? ⟨g4, j, none⟩ = false := World.ownsRow.frozenAt o4'.out j
    have g1 : w4.cell? ⟨w.heap.size, 1, none⟩ = some (.int .u64 (first : Int)) := k04.out.cell 1
    have hB7 := Lib.hid (hB4.out.trans (hB5.out.mono hB4.out.size))
    have o5' := Lib.hid (own_put (j := j) (z := x) o4'.out)
    have hon := only_setCell g4 j w4 (.int .i64 x)
    have k05 : Hid (Has (w4.setCell ⟨g4, j, none⟩ (.int .i64 x)) w.heap.size 31 #[.slice A n c, .int .u64 (first : Int), .int .i64 (most : Int)]) := (hon.block w.heap.size (by have := hge.out; omega)).trans k04.out
    have k15 : Hid (Has (w4.setCell ⟨g4, j, none⟩ (.int .i64 x)) (w.heap.size + 1) _ _) := (hon.block (w.heap.size + 1) (by have := hge.out; omega)).trans k14.out
    have h1' : (w4.setCell ⟨g4, j, none⟩ (.int .i64 x)).cell? ⟨w.heap.size, 1, none⟩ = some (.int .u64 (first : Int)) := k05.out.cell 1
    have h2' : (w4.setCell ⟨g4, j, none⟩ (.int .i64 x)).cell? ⟨w.heap.size, 2, none⟩ = some (.int .i64 (most : Int)) := k05.out.cell 2
    have hB8 := Lib.hid (hB7.out.trans (hon.below (by have := hge.out; omega)))
    have d0 : (w4.setCell ⟨g4, j, none⟩ (.int .i64 x)).cell? ⟨w.heap.size + 1, 0, none⟩ = some (.slice none 0 0) := k15.out.cell 0
    have d1 : (w4.setCell ⟨g4, j, none⟩ (.int .i64 x)).cell? ⟨w.heap.size + 1, 1, none⟩ = some (.int .u64 0) := k15.out.cell 1
    have d2 : (w4.setCell ⟨g4, j, none⟩ (.int .i64 x)).cell? ⟨w.heap.size + 1, 2, none⟩ = some (.int .i64 0) := k15.out.cell 2
    have f0 : (w4.setCell ⟨g4, j, none⟩ (.int .i64 x)).frozen? ⟨w.heap.size + 1, 0, none⟩ = false := k15.out.free 0
    have f1 : (w4.setCell ⟨g4, j, none⟩ (.int .i64 x)).frozen? ⟨w.heap.size + 1, 1, none⟩ = false := k15.out.free 1
    have f2 : (w4.setCell ⟨g4, j, none⟩ (.int .i64 x)).frozen? ⟨w.heap.size + 1, 2, none⟩ = false := k15.out.free 2
    clear e0 k03 k13 k04 k14 hlt4 hon hB5 o4'
    go_wp2
    obtain ⟨x0, x1, x2, ho⟩ := fill3 k15.out (.slice (some ⟨g4, 0, none⟩) n c4) (.int .u64 (first : Int)) (.int .i64 (most : Int))
    refine bodyPost_ret (v := .tuple #[.agg #[.slice (some ⟨g4, 0, none⟩) n c4, .int .u64 (first : Int), .int .i64 (most : Int)], .int .i64 v, .bool true]) (by simp [results, Try.results26, go_sem, x0, x1, x2]) rfl ?_
    obtain ⟨hl5, hf5⟩ := own_fine o5'.out
    have hge2 := hge.out
    have hgg2 := hgg.out
    refine ⟨some ⟨g4, 0, none⟩, c4, by unfold rv; rw [hl5], (hf5.kept (fun k hk => ho.block k (by have := hk.1; omega))).mono (fun k hk => .inr ?_), hB8.out.trans (ho.below (by omega))⟩
    have h5 := hk.2
    rw [← ho.size] at h5
    exact ⟨by have := hk.1; omega, h5⟩
  · rw [decide_eq_false hin] at hhas0
    have hhas := Lib.hid hhas0
    have hgot := got_no (vs := l) (by rw [hn]; exact hin)
    have hset := setv_no (vs := l) (z := x) (by rw [hn]; exact hin)
    rw [hgot, hset]
    clear hp hS hn hgot hset hhas0 hin
    go_enter Try.func26, Try.ntmps26
    go_wp2_with fail
    have k1 := Has.new (w.alloc (.cells #[.slice A n c, .int .u64 (first : Int), .int .i64 (most : Int)] 31)) 31 #[.slice none 0 0, .int .u64 0, .int .i64 0]
    have k0 := (Has.new w 31 #[.slice A n c, .int .u64 (first : Int), .int .i64 (most : Int)]).alloc (.cells #[.slice none 0 0, .int .u64 0, .int .i64 0] 31)
    have hB := ((Below.refl w.heap.size w).alloc (Nat.le_refl _) (.cells #[.slice A n c, .int .u64 (first : Int), .int .i64 (most : Int)] 31)).alloc (by simp) (.cells #[.slice none 0 0, .int .u64 0, .int .i64 0] 31)
    simp only [World.size_alloc] at k1
    generalize (w.alloc (.cells #[.slice A n c, .int .u64 (first : Int), .int .i64 (most : Int)] 31)).alloc (.cells #[.slice none 0 0, .int .u64 0, .int .i64 0] 31) = w2 at k0 k1 hB ⊢
    refine (hhas.out w2).mono ?_
    rintro e w3 ⟨rfl, hB3⟩
    have k03 := Lib.hid (k0.below hB3 k0.lt)
    have k13 := Lib.hid (k1.below hB3 k1.lt)
    have hB4 := Lib.hid (hB.trans (hB3.mono hB.size))
    have k15 := k13
    have e0 : w3.cell? ⟨w.heap.size, 0, none⟩ = some (.slice A n c) := k03.out.cell 0
    have e1 : w3.cell? ⟨w.heap.size, 1, none⟩ = some (.int .u64 (first : Int)) := k03.out.cell 1
    have e2 : w3.cell? ⟨w.heap.size, 2, none⟩ = some (.int .i64 (most : Int)) := k03.out.cell 2
    have d0 : w3.cell? ⟨w.heap.size + 1, 0, none⟩ = some (.slice none 0 0) := k15.out.cell 0
    have d1 : w3.cell? ⟨w.heap.size + 1, 1, none⟩ = some (.int .u64 0) := k15.out.cell 1
    have d2 : w3.cell? ⟨w.heap.size + 1, 2, none⟩ = some (.int .i64 0) := k15.out.cell 2
    have f0 : w3.frozen? ⟨w.heap.size + 1, 0, none⟩ = false := k15.out.free 0
    have f1 : w3.frozen? ⟨w.heap.size + 1, 1, none⟩ = false := k15.out.free 1
    have f2 : w3.frozen? ⟨w.heap.size + 1, 2, none⟩ = false := k15.out.free 2
    clear k0 k1 hB hB3 hhas k03 k13
    go_wp2
    obtain ⟨x0, x1, x2, ho⟩ := fill3 k15.out (.slice A n c) (.int .u64 (first : Int)) (.int .i64 (most : Int))
    refine bodyPost_ret (v := .tuple #[.agg #[.slice A n c, .int .u64 (first : Int), .int .i64 (most : Int)], .int .i64 0, .bool false]) (by simp [results, Try.results26, go_sem, x0, x1, x2]) rfl ?_
    have hB9 := hB4.out.trans (ho.below (B := w.heap.size) (by omega))
    exact ⟨A, c, by unfold rv; rw [hn'.out], (hp'.out.kept (Kept.below hB9 hS'.out)).mono (fun _ hk => .inl hk), hB9⟩
end Go.Proofs.Ytajdlkohnafbeaa
