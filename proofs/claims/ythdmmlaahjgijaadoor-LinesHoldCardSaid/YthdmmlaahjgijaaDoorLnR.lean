import Derived.Test.YthdmmlaahjgijaaDoorLnQ
import Derived.Test.YthdmmlaahjgijaaDoorN
namespace Go.Proofs.YthdmmlaahjgijaaDoor
open Go.RowKit Go.Shelf

/-! ## The chapter's rows -/
def strsV (ss : List (List UInt8)) : List Value := ss.map fun t => .string ⟨t.toArray⟩
def OfT (ss : List (List UInt8)) (w : World) (e : Ending) (w' : World) : Prop := ∃ A c, e = .returned (.slice A ss.length c) ∧ LnAt w' A (ss.map fun t => (t, false)) ∧ Below w.heap.size w w'
set_option maxRecDepth 100000 in
theorem ofT_any (k n : Nat) (ss : List (List UInt8)) (w : World) (h : Has w k 9 (strsV ss).toArray) (hn : n = ss.length) (hm : n ≤ 1000000) :
    Calls Tryd.prog 54 #[.slice (some ⟨k, 0, none⟩) n n] w (OfT ss w) := by
  have h' := Lib.hid h
  have hn' := Lib.hid hn
  have hk := h.lt
  clear h hn
  go_enter Tryd.func54, Tryd.ntmps54
  go_wp2
  go_loopw [3, 4] (fun v i W => ∃ j : Nat, i = .int .i64 (j : Int) ∧ j ≤ n ∧ Lns W w.heap.size v ((ss.take j).map fun t => (t, false)) ∧ Below w.heap.size w W) (fun _ i _ => n - (intOf i).toNat)
  case atStart => exact ⟨0, rfl, Nat.zero_le _, lns_nil _ _, Below.refl _ _⟩
  case round =>
    obtain ⟨j, rfl, hj, hv, hb⟩ := hrel
    have hv' := Lib.hid hv
    have hb' := Lib.hid hb
    have hbs := hb.size
    by_cases hlt : j < n
    · obtain ⟨t, ht⟩ : ∃ t, ss[j]? = some t := ⟨ss[j]'(by have := hn'.out; omega), List.getElem?_eq_getElem (by have := hn'.out; omega)⟩
      have hc : wr.cell? ⟨k, j, none⟩ = some (.string ⟨t.toArray⟩) := by
        rw [(h'.out.below hb hk).cell]
        simp [strsV, ht]
      have htk : (ss.take (j + 1)).map (fun t => (t, false)) = (ss.take j).map (fun t => (t, false)) ++ [(t, false)] := by rw [List.take_add_one, ht]; simp
      have htk' := Lib.hid htk
      have hln := Lib.hid (show ((ss.take j).map fun t => (t, false)).length + 1 ≤ 1099511627776 from by rw [List.length_map, List.length_take]; omega)
      have hv2 := Lib.hid (hv.below ((Below.refl _ _).alloc (Nat.le_refl _) (.cells #[.string ⟨t.toArray⟩, .bool false] 70)))
      have hnw := Lib.hid (Has.new wr 70 #[.string ⟨t.toArray⟩, .bool false])
      have hji : (j : Int) < (n : Int) := by omega
      clear hv hb ht htk
      go_wp2_with (at_builtin; refine wpList_append_line rfl _ _ rfl rfl hv2.out _ t false rfl hnw.out hln.out (by rw [World.size_alloc]; omega) ?_; intro v3 w3 hv3 hg3; have hv3' := Lib.hid hv3; have hg3' := Lib.hid hg3; clear hv3 hg3)
      refine ⟨⟨j + 1, by go_num, by omega, by rw [htk'.out]; exact hv3'.out, ?_⟩, by simp [intOf]; omega⟩
      exact ((hb'.out.alloc hbs _).grown hg3'.out (by simp; omega) (fun g e => (hv2.out.own g e).1))
    · obtain rfl : j = n := by omega
      obtain ⟨A, c, rfl, hat⟩ := hv.at
      rw [List.take_of_length_le (by have := hn'.out; omega)] at hat ⊢
      have hat' := Lib.hid hat
      rw [List.length_map]
      clear hv hb hat
      go_wp2
      go_ret
      exact ⟨_, _, rfl, hat'.out, hb'.out⟩
theorem LnAt.lit {W : World} {k : Nat} {xs : List (List UInt8 × Bool)} (h : Has W k 70 (linesC xs).toArray) : LnAt W (some ⟨k, 0, none⟩) xs := fun i x hx => by
  obtain ⟨h1, h2⟩ := linesC_get xs i x hx
  exact ⟨k, rfl, ⟨_, h⟩, by rw [h.cell]; simpa using h1, by rw [h.cell]; simpa using h2⟩
/-- A literal of bytes, that the program lays. -/
theorem lit_fr (w : World) (l : List UInt8) (cs : Array Value) (fr : Nat × Nat) (hcs : (byts l).toArray = cs) : Rd (w.alloc (.cells cs 5 fr)) (fun k => k < (w.alloc (.cells cs 5 fr)).heap.size ∧ w.heap.size ≤ k) (some ⟨w.heap.size, 0, none⟩) l := fun _ => by
  refine ⟨_, rfl, by simp, fun j u hu => ?_⟩
  rw [add_zero_, Nat.zero_add, cell_of_row _ _ j cs _ fr (World.alloc_heap_new w _), ← hcs]
  simpa using hu
def OfLit (ls : List (List UInt8 × Bool)) (m : Nat) (w : World) (e : Ending) (w' : World) : Prop := ∃ A c, e = .returned (.tuple #[.slice A m c, .int .i64 0]) ∧ LnAt w' A ls ∧ Below w.heap.size w w'
theorem ofL_lit (most n m : Nat) (lit : List UInt8) (ls : List (List UInt8 × Bool)) (cs : Array Value) (fr : Nat × Nat) (w : World) (hT : Tab w) (hE : Ends w) (hls : (stepC most init0 lit).1 = ls) (hm : ls.length = m) (hcs : (byts lit).toArray = cs) (hn : n = lit.length) (hl : lit.length ≤ 100) (hm1 : 1 ≤ most) (hm2 : most ≤ 65536) :
    Calls Tryd.prog 30 #[.int .i64 (most : Int), .slice (some ⟨w.heap.size, 0, none⟩) n n] (w.alloc (.cells cs 5 fr)) (OfLit ls m w) := by
  have hb : Below w.heap.size w (w.alloc (.cells cs 5 fr)) := (Below.refl _ _).alloc (Nat.le_refl _) _
  refine (ofL_yes most lit (some ⟨w.heap.size, 0, none⟩) n n _ hm1 hm2 hn (Nat.le_refl _) (by omega) (by omega) ((lit_fr w lit cs fr hcs).mono (fun k hk => hk.1)) (hT.below hb) (hE.below hb)).mono ?_
  rintro e w' ⟨v, rfl, h1, h2⟩
  rw [hls] at h1
  obtain ⟨A, c, rfl, h3⟩ := h1.at
  rw [hm]
  exact ⟨A, c, rfl, h3, hb.trans (h2.mono hb.size)⟩
def WroteLit (B sp dp most : Nat) (s' : CSt) (ls : List (List UInt8 × Bool)) (m : Nat) (w : World) (e : Ending) (w' : World) : Prop :=
  ∃ A c, e = .returned (.tuple #[.slice A m c, .int .i64 0]) ∧ LnAt w' A ls ∧ SpN w' B sp dp most s' ∧ Below B w w' ∧ (∀ A ls, LnAt w A ls → LnAt w' A ls)
theorem writeN_lit (B sp dp most n m : Nat) (s : CSt) (lit : List UInt8) (ls : List (List UInt8 × Bool)) (s' : CSt) (cs : Array Value) (fr : Nat × Nat) (w : World) (hs : SpN w B sp dp most s) (hok : s.ok most) (hT : Tab w) (hE : Ends w) (hTB : 0 < B) (hEB : 1 < B) (hB : B ≤ w.heap.size)
    (hls : stepC most s lit = (ls, s')) (hm : ls.length = m) (hcs : (byts lit).toArray = cs) (hn : n = lit.length) (hl : lit.length ≤ 100) (hm1 : 1 ≤ most) (hm2 : most ≤ 65536) :
    Calls Tryd.prog 39 #[.pointer (some ⟨sp, 0, none⟩), .slice (some ⟨w.heap.size, 0, none⟩) n n] (w.alloc (.cells cs 5 fr)) (WroteLit B sp dp most s' ls m w) := by
  have hb : Below w.heap.size w (w.alloc (.cells cs 5 fr)) := (Below.refl _ _).alloc (Nat.le_refl _) _
  refine (writeN_any B sp dp most s lit (some ⟨w.heap.size, 0, none⟩) n n w _ hs hb hok hm1 hm2 hn (Nat.le_refl _) (by omega) (by omega) ((lit_fr w lit cs fr hcs).mono (fun k hk => ⟨hk.1, .inr hk.2⟩)) (hT.below hb) (hE.below hb) hTB hEB hB).mono ?_
  rintro e w' ⟨v, rfl, h1, h2, h3, _, h5⟩
  rw [hls] at h1 h2
  obtain ⟨A, c, rfl, h6⟩ := h1.at
  simp only
  rw [hm]
  exact ⟨A, c, rfl, h6, h2, h3, h5⟩
/-! The rows' values. -/
def sA : CSt := (stepC 9 init0 [97, 13]).2
def sB : CSt := (stepC 9 sA [10, 98]).2
def sC : CSt := (stepC 9 sB [10]).2
theorem rw1 : (stepC 9 init0 [239, 187, 191, 97, 10, 98, 13, 10, 13, 99]).1 = [([97], false), ([98], false), ([], false)] := by decide +kernel
theorem rw2 : (stepC 2 init0 [97, 98, 99, 10, 100, 10]).1 = [([], true), ([100], false)] := by decide +kernel
theorem rw3 : stepC 9 init0 [97, 13] = ([([97], false)], sA) := Prod.ext (by decide +kernel) rfl
theorem rw4 : stepC 9 sA [10, 98] = ([], sB) := Prod.ext (by decide +kernel) rfl
theorem rw5 : stepC 9 sB [10] = ([([98], false)], sC) := Prod.ext (by decide +kernel) rfl
theorem rw6 : sC.l.bytes = [] ∧ sC.l.long = false := by decide +kernel
theorem okA : sA.ok 9 := stepC_ok (init0_ok 9) _
theorem okB : sB.ok 9 := stepC_ok okA _
end Go.Proofs.YthdmmlaahjgijaaDoor
