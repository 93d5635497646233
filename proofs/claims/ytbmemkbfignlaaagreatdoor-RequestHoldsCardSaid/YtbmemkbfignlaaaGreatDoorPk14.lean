import Derived.Test.YtbmemkbfignlaaaGreatDoorPk13
namespace Go.Proofs.YtbmemkbfignlaaaGreatDoor
open Go.RowKit Go.Shelf
attribute [local go_sem] Oper.semAt_some

/-! ## Things, each one made of a text -/
theorem allL_go {α β : Type} {f : α → Option β} {ls : List α} {done : List β} {j : Nat} {x : α} {y : β} (h : allL f ls = (allL f (ls.drop j)).map (done ++ ·)) (hj : j < ls.length) (hx : ls[j] = x) (hf : f x = some y) : allL f ls = (allL f (ls.drop (j + 1))).map ((done ++ [y]) ++ ·) := by
  rw [h, List.drop_eq_getElem_cons hj, hx, allL_step hf]
theorem allL_out {α β : Type} {f : α → Option β} {ls : List α} {done : List β} {j : Nat} {x : α} (h : allL f ls = (allL f (ls.drop j)).map (done ++ ·)) (hj : j < ls.length) (hx : ls[j] = x) (hf : f x = none) : allL f ls = none := by
  rw [h, List.drop_eq_getElem_cons hj, hx, allL_stop hf]
theorem allL_fin {α β : Type} {f : α → Option β} {ls : List α} {done : List β} (h : allL f ls = (allL f (ls.drop ls.length)).map (done ++ ·)) : allL f ls = some done := by
  rw [h, List.drop_length, allL_end]
def MadestringR (o : Option (List (List UInt8))) (w : World) (e : Ending) (w' : World) : Prop := (match o with
  | some l => ∃ v, e = .returned v ∧ Strs w' w.heap.size v l
  | none => e = gaveE 210) ∧ Below w.heap.size w w'
set_option maxRecDepth 100000 in
set_option maxHeartbeats 4000000 in
theorem madestring_any (fn : FuncId) (f : List UInt8 → Option (List UInt8)) (hen : ∀ args W, (callFunc fn args).run Tryz.prog W = .ok (.enter fn args) W) (ls : List (List UInt8)) (A : Option Addr) (c : Nat) (w : World) (hT : TabT w) (hx : Txs w A ls) (hl : ls.length ≤ 900000)
    (hf : ∀ s ∈ ls, ∀ W, TabT W → Calls Tryz.prog fn #[.string ⟨s.toArray⟩] W (DecT (f s) W)) :
    Calls Tryz.prog 99 #[.func (.func fn) #[] #[], .slice A ls.length c] w (MadestringR (allL f ls) w) := by
  have hT' := Lib.hid hT
  have hx' := Lib.hid hx
  have hf' := Lib.hid hf
  have hli : (ls.length : Int) ≤ 900000 := by omega
  clear hT hx hf
  go_enter Tryz.func99, Tryz.ntmps99
  go_wp2
  go_loopw [5, 7, 10] (fun v _ x W => ∃ (done : List (List UInt8)) (j : Nat), j ≤ ls.length ∧ x = .int .i64 (j : Int) ∧ Strs W w.heap.size v done ∧ done.length = j ∧ allL f ls = (allL f (ls.drop j)).map (done ++ ·) ∧ Below w.heap.size w W) (fun _ _ x _ => ls.length - (intOf x).toNat)
  case atStart => exact ⟨[], 0, Nat.zero_le _, rfl, strs_nil _ _, rfl, by rw [List.drop_zero]; exact allL_start f ls, Below.refl _ _⟩
  case round =>
    obtain ⟨done, j, hj, rfl, hbs, hdl, hgo, hb⟩ := hrel
    have hb' := Lib.hid hb
    have hz3 := Lib.hid hb.size
    have hbs' := Lib.hid hbs
    have hgo' := Lib.hid hgo
    clear hbs hb hgo
    by_cases hlt : j < ls.length
    · have hltI : (j : Int) < (ls.length : Int) := by omega
      obtain ⟨b, o, rfl, hbl, hcs⟩ := (hx'.out.below hb'.out) (by omega)
      obtain ⟨t, ht⟩ : ∃ t, ls[j] = t := ⟨_, rfl⟩
      have c0 := hcs j t (by rw [List.getElem?_eq_getElem hlt, ht])
      have h1 := Lib.hid (hf'.out t (by rw [← ht]; exact List.getElem_mem hlt) wr (hT'.out.below hb'.out))
      unfold DecT at h1
      obtain ⟨y0, hy0⟩ : ∃ y, f t = y := ⟨_, rfl⟩
      rw [hy0] at h1
      clear hcs
      cases y0 with
      | none =>
        have hno := Lib.hid (allL_out hgo'.out hlt ht hy0)
        simp only at h1
        clear hy0 ht
        go_wp2_with (go_at_fn fn; (with_reducible refine Calls.mono h1.out ?_); rintro e w3 ⟨rfl, hb3⟩; have hb3' := Lib.hid hb3; clear hb3)
        exact ⟨rfl, by rw [hno.out], hb'.out.trans (hb3'.out.mono hz3.out)⟩
      | some y =>
        have hgo2 := Lib.hid (allL_go hgo'.out hlt ht hy0)
        simp only at h1
        clear hy0 ht
        have hbsA := fun W3 (h3 : Below wr.heap.size wr W3) => Lib.hid ((hbs'.out.below h3).below ((Below.refl W3.heap.size W3).alloc (Nat.le_refl _) (.cells #[.string ⟨y.toArray⟩] 9)))
        go_wp2_with (first
          | (go_at_fn fn; (with_reducible refine Calls.mono h1.out ?_); rintro e w3 ⟨rfl, hb3⟩; have hb3' := Lib.hid hb3; have hz4 := Lib.hid hb3.size; clear hb3)
          | (at_builtin; refine wpList_append_str rfl _ _ rfl rfl (hbsA _ hb3'.out).out w3.heap.size y rfl (Has.new _ _ _) (by omega) (by have := hz3.out; have := hz4.out; simp; omega) ?_; intro v8 w8 ho8 hg8; have ho8' := Lib.hid ho8; have hg8' := Lib.hid hg8; clear ho8 hg8))
        have hB1 := (hb'.out.trans (hb3'.out.mono hz3.out)).alloc (by have := hz3.out; have := hz4.out; omega) (.cells #[.string ⟨y.toArray⟩] 9)
        have hB8 := hB1.grown hg8'.out (by have := hz3.out; have := hz4.out; simp; omega) (fun g e => (hbs'.out.own g e).1)
        exact ⟨⟨done ++ [y], j + 1, by omega, by go_num, ho8'.out, by rw [List.length_append, List.length_singleton, hdl], hgo2.out, hB8⟩, by simp [intOf]; omega⟩
    · obtain rfl : j = ls.length := by omega
      have hfin := Lib.hid (allL_fin hgo'.out)
      go_wp2
      go_ret
      refine ⟨?_, hb'.out⟩
      rw [hfin.out]
      exact ⟨_, rfl, hbs'.out⟩
def MadePairR (o : Option (List (PairL))) (w : World) (e : Ending) (w' : World) : Prop := (match o with
  | some l => ∃ v, e = .returned v ∧ PrsO w' w.heap.size v l
  | none => e = gaveE 210) ∧ Below w.heap.size w w'
set_option maxRecDepth 100000 in
set_option maxHeartbeats 4000000 in
theorem madePair_any (fn : FuncId) (f : List UInt8 → Option (PairL)) (hen : ∀ args W, (callFunc fn args).run Tryz.prog W = .ok (.enter fn args) W) (ls : List (List UInt8)) (A : Option Addr) (c : Nat) (w : World) (hT : TabT w) (hx : Txs w A ls) (hl : ls.length ≤ 900000)
    (hf : ∀ s ∈ ls, ∀ W, TabT W → Calls Tryz.prog fn #[.string ⟨s.toArray⟩] W (PairV (f s) W)) :
    Calls Tryz.prog 101 #[.func (.func fn) #[] #[], .slice A ls.length c] w (MadePairR (allL f ls) w) := by
  have hT' := Lib.hid hT
  have hx' := Lib.hid hx
  have hf' := Lib.hid hf
  have hli : (ls.length : Int) ≤ 900000 := by omega
  clear hT hx hf
  go_enter Tryz.func101, Tryz.ntmps101
  go_wp2
  go_loopw [5, 7, 10] (fun v _ x W => ∃ (done : List (PairL)) (j : Nat), j ≤ ls.length ∧ x = .int .i64 (j : Int) ∧ PrsO W w.heap.size v done ∧ done.length = j ∧ allL f ls = (allL f (ls.drop j)).map (done ++ ·) ∧ Below w.heap.size w W) (fun _ _ x _ => ls.length - (intOf x).toNat)
  case atStart => exact ⟨[], 0, Nat.zero_le _, rfl, prsO_nil _ _, rfl, by rw [List.drop_zero]; exact allL_start f ls, Below.refl _ _⟩
  case round =>
    obtain ⟨done, j, hj, rfl, hbs, hdl, hgo, hb⟩ := hrel
    have hb' := Lib.hid hb
    have hz3 := Lib.hid hb.size
    have hbs' := Lib.hid hbs
    have hgo' := Lib.hid hgo
    clear hbs hb hgo
    by_cases hlt : j < ls.length
    · have hltI : (j : Int) < (ls.length : Int) := by omega
      obtain ⟨b, o, rfl, hbl, hcs⟩ := (hx'.out.below hb'.out) (by omega)
      obtain ⟨t, ht⟩ : ∃ t, ls[j] = t := ⟨_, rfl⟩
      have c0 := hcs j t (by rw [List.getElem?_eq_getElem hlt, ht])
      have h1 := Lib.hid (hf'.out t (by rw [← ht]; exact List.getElem_mem hlt) wr (hT'.out.below hb'.out))
      unfold PairV at h1
      obtain ⟨y0, hy0⟩ : ∃ y, f t = y := ⟨_, rfl⟩
      rw [hy0] at h1
      clear hcs
      cases y0 with
      | none =>
        have hno := Lib.hid (allL_out hgo'.out hlt ht hy0)
        simp only at h1
        clear hy0 ht
        go_wp2_with (go_at_fn fn; (with_reducible refine Calls.mono h1.out ?_); rintro e w3 ⟨rfl, hb3⟩; have hb3' := Lib.hid hb3; clear hb3)
        exact ⟨rfl, by rw [hno.out], hb'.out.trans (hb3'.out.mono hz3.out)⟩
      | some y =>
        have hgo2 := Lib.hid (allL_go hgo'.out hlt ht hy0)
        simp only at h1
        clear hy0 ht
        have hbsA := fun W3 (h3 : Below wr.heap.size wr W3) => Lib.hid ((hbs'.out.below h3).below ((Below.refl W3.heap.size W3).alloc (Nat.le_refl _) (.cells #[.string ⟨y.1.toArray⟩, .string ⟨y.2.toArray⟩] 88)))
        go_wp2_with (first
          | (go_at_fn fn; (with_reducible refine Calls.mono h1.out ?_); rintro e w3 ⟨rfl, hb3⟩; have hb3' := Lib.hid hb3; have hz4 := Lib.hid hb3.size; clear hb3)
          | (at_builtin; refine wpList_append_pair rfl _ _ rfl rfl (hbsA _ hb3'.out).out w3.heap.size y rfl (Has.new _ _ _) (by omega) (by have := hz3.out; have := hz4.out; simp; omega) ?_; intro v8 w8 ho8 hg8; have ho8' := Lib.hid ho8; have hg8' := Lib.hid hg8; clear ho8 hg8))
        have hB1 := (hb'.out.trans (hb3'.out.mono hz3.out)).alloc (by have := hz3.out; have := hz4.out; omega) (.cells #[.string ⟨y.1.toArray⟩, .string ⟨y.2.toArray⟩] 88)
        have hB8 := hB1.grown hg8'.out (by have := hz3.out; have := hz4.out; simp; omega) (fun g e => (hbs'.out.own g e).1)
        exact ⟨⟨done ++ [y], j + 1, by omega, by go_num, ho8'.out, by rw [List.length_append, List.length_singleton, hdl], hgo2.out, hB8⟩, by simp [intOf]; omega⟩
    · obtain rfl : j = ls.length := by omega
      have hfin := Lib.hid (allL_fin hgo'.out)
      go_wp2
      go_ret
      refine ⟨?_, hb'.out⟩
      rw [hfin.out]
      exact ⟨_, rfl, hbs'.out⟩
end Go.Proofs.YtbmemkbfignlaaaGreatDoor
