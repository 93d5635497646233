import Derived.Test.YtdkmajmmhngdpaaDoorFdEb
import Derived.Deep.Strs
namespace Go.Proofs.YtdkmajmmhngdpaaDoor
open Go.RowKit Go.Shelf Go.Deep

/-! ## Lines that came in, opened -/
theorem pick_strs (P : Nat → List UInt8 → Prop) : ∀ (n : Nat), (∀ i, i < n → ∃ d, P i d) → ∃ l : List (List UInt8), l.length = n ∧ ∀ i d, l[i]? = some d → P i d
  | 0, _ => ⟨[], rfl, fun i d hd => by simp at hd⟩
  | n + 1, h => by
    obtain ⟨l, hl, hP⟩ := pick_strs P n (fun i hi => h i (by omega))
    obtain ⟨d, hd⟩ := h n (by omega)
    refine ⟨l ++ [d], by simp [hl], fun i x hx => ?_⟩
    rw [List.getElem?_append] at hx
    split at hx
    · exact hP i x hx
    · obtain rfl : i = n := by
        have := (List.getElem?_eq_some_iff.1 hx).1
        simp at this
        omega
      simp [hl] at hx
      rw [← hx]; exact hd
theorem strs_of {H : Type} {enc : TypeId × Value → H} {W : World} {held : Bool} {fuel : Nat} {A : Option Addr} {len cap : Nat} {y : DataW H × List MemPlace} (h : DataW.trod enc Tryd.prog W 0 (fun _ => true) held fuel 47 [.slice A len cap] = some y) :
    ∃ ls : List (List UInt8), len = ls.length ∧ ArgS W A ls ∧ len ≤ maxLen := by
  rcases open_strs Tryd.underlying47 Tryd.underlying9 (by kernel_rfl) h with ⟨hcs, _⟩ | ⟨a, len', cap', m, Sx, hcs, _, hl, hm, hmm, _, hi⟩
  · injection hcs with hcs
    injection hcs with h1 h2 h3
    subst h2
    exact ⟨[], rfl, fun h => absurd h (by simp), Nat.zero_le _⟩
  · injection hcs with hcs
    injection hcs with h1 h2 h3
    subst h1; subst h2; subst h3
    have hlm : len ≤ m := by
      simp only at hmm
      split at hmm <;> omega
    obtain ⟨ls, hll, hls⟩ := pick_strs (fun i x => W.cell? (a.add i) = some (.string ⟨x.toArray⟩)) len (fun i hil => ⟨(Sx i).data.toList, (hi i (by omega)).1⟩)
    refine ⟨ls, hll.symm, fun h0 => ?_, by omega⟩
    have h1 := hls 0 _ (List.getElem?_eq_getElem h0)
    have hs : a.spot = none := by simpa [Addr.add] using World.cell?_spot h1
    have hbl := World.block_lt_of_cell? W _ h1
    obtain ⟨b, o, spot⟩ := a
    subst hs
    refine ⟨b, o, rfl, by simpa [Addr.add] using hbl, fun i x hx => ?_⟩
    have h2 := hls i x hx
    rw [show (⟨b, o, none⟩ : Addr).add i = ⟨b, o + i, none⟩ by unfold Addr.add; split <;> simp_all] at h2
    exact h2
set_option maxRecDepth 100000 in
set_option maxHeartbeats 4000000 in
theorem eachF_works (A : Option Addr) (n c : Nat) (m : Int) (w : World) (hN : NamesT w) (hM : MaxT w) (hT : Tab w) (h : 20 < n) :
    Calls Tryd.prog 7 #[.slice A n c, .int .i64 m] w fun e w' => e = .returned (.bool true) ∧ Below w.heap.size w w' := by
  have hwk := Lib.hid (fun W (hb : Below w.heap.size w W) => carry w W hb (worksF_any W (hN.below hb) (hM.below hb) (hT.below hb)))
  have h1' : (20 : Int) < (n : Int) := by omega
  have hb4 := Lib.hid (show Below w.heap.size w (((w.alloc (.cells #[.slice A n c] 47)).alloc (.cells #[.int .i64 m] 3)).alloc (.cells #[.bool false] 4)) from ((((Below.refl _ _).alloc (Nat.le_refl _) _).alloc (by simp) _).alloc (by simp; omega) _))
  have k4 := Lib.hid (Has.new ((w.alloc (.cells #[.slice A n c] 47)).alloc (.cells #[.int .i64 m] 3)) 4 #[.bool false])
  clear hN hM hT h
  refine (callsIn_wide (n := 3)).1 ?_
  refine callsIn_of_wp_marks Tryd.func7 rfl trivial ?_ rfl
  refine wpIn_wide.2 ?_
  simp only [Tryd.ntmps7, List.size_toArray, List.length_cons, List.length_nil, Nat.reduceAdd, Nat.reduceSub, Array.replicate_succ, Array.replicate_zero, List.push_toArray, List.append_toArray, List.nil_append, List.cons_append]
  go_wp2_with ((go_at_call 23; (with_reducible refine Calls.mono (hwk.out _ hb4.out) ?_); rintro e w9 ⟨rfl, hl9, hb9⟩; have k := k4.out; simp only [World.size_alloc] at k; have g9 := k.below hl9 (by have := k.lt; exact this); have e9 := g9.cell 0; have f9 := g9.free 0; have g10 := (g9.put 0 (.bool true)).cell 0; have hb10 := Lib.hid (hb9.setCell (p := ⟨w.heap.size + 1 + 1, 0, none⟩) (by simp; omega) (.bool true)); clear hl9 hb9))
  refine ⟨.bool true, ?_, rfl, hb10.out⟩
  simp [results, Tryd.results7, go_sem, g10]
end Go.Proofs.YtdkmajmmhngdpaaDoor
