import Derived.Test.YtbmemkbfignlaaaGreatDoorPk25
namespace Go.Proofs.YtbmemkbfignlaaaGreatDoor
open Go.RowKit
attribute [local go_sem] Oper.semAt_some class_at0 class_at1 class_at2

/-! ## Quoted texts -/
def quoteV (o : Option (List UInt8)) : Value := .tuple #[.string ⟨(o.getD []).toArray⟩, .int .i64 (if o.isSome then 0 else 110)]
def QuotR (o : Option (List UInt8)) (w : World) (e : Ending) (w' : World) : Prop := e = .returned (quoteV o) ∧ Below w.heap.size w w'
theorem quoteL_end (r : List UInt8) : quoteL (34 :: r) = if r = [] then some [] else none := by unfold quoteL; rfl
theorem quoteL_nil : quoteL [] = none := rfl
theorem quoteL_esc1 : quoteL [92] = none := by unfold quoteL; rfl
theorem quoteL_esc2 (b : UInt8) (r : List UInt8) : quoteL (92 :: b :: r) = if valB b then (quoteL r).map (b :: ·) else none := by
  conv => lhs; unfold quoteL
  rfl
theorem quoteL_else {b : UInt8} (r : List UInt8) (h1 : b ≠ 34) (h2 : b ≠ 92) : quoteL (b :: r) = if valB b then (quoteL r).map (b :: ·) else none := by
  conv => lhs; unfold quoteL
  split
  · rename_i h; cases h
  · rename_i h; injection h with h _; exact absurd h h1
  · rename_i h; injection h with h _; exact absurd h h2
  · rename_i h; injection h with ha hb; subst ha; subst hb; rfl
/-- What is told so far, and what is left. -/
def goesL (done : List UInt8) (t : List UInt8) : Option (List UInt8) := (quoteL t).map (done ++ ·)
theorem goesL_step {done t r : List UInt8} {b : UInt8} (h : quoteL t = if valB b then (quoteL r).map (b :: ·) else none) : (valB b = true → goesL done t = goesL (done ++ [b]) r) ∧ (valB b = false → goesL done t = none) := by
  unfold goesL
  rw [h]
  constructor
  · intro hv; rw [if_pos hv]; cases quoteL r <;> simp
  · intro hv; rw [if_neg (by rw [hv]; decide)]; rfl
/-- How long a reader's text is. -/
def leftN (W : World) (k : Nat) : Nat := match W.cell? ⟨k, 0, none⟩ with | some (.string x) => x.size | _ => 0
theorem RdAt.left {W : World} {k : Nat} {t : List UInt8} {q : Bool} (h : RdAt W k t q) : leftN W k = t.length := by
  unfold leftN
  rw [h.facts.1]
  show t.toArray.size = _
  simp
theorem RdAt.grown {X Y : World} {v : Value} {l t : List UInt8} {n0 k : Nat} {q : Bool} (h : RdAt X k t q) (hf : Bs X n0 v l) (hg : X.grownBy Y v.ownBlock) (hk : k < n0) : RdAt Y k t q :=
  (hg.block k h.lt (fun e => by have := (hf.own k e.symm).1; omega)).trans h
theorem takes34_yes (k : Nat) (r : List UInt8) (q : Bool) (w : World) (hk : RdAt w k (34 :: r) q) : Calls Tryz.prog 234 #[.pointer (some ⟨k, 0, none⟩), .int .u8 34] w fun e w' => e = .returned (.bool true) ∧ w' = w.setCell ⟨k, 0, none⟩ (.string ⟨r.toArray⟩) := takes_yes k 34 r q w hk
theorem takes34_no (k : Nat) (t : List UInt8) (q : Bool) (w : World) (hk : RdAt w k t q) (ht : t.head? ≠ some 34) : Calls Tryz.prog 234 #[.pointer (some ⟨k, 0, none⟩), .int .u8 34] w fun e w' => e = .returned (.bool false) ∧ w' = w := takes_no k 34 t q w hk ht
theorem takes92_yes (k : Nat) (r : List UInt8) (q : Bool) (w : World) (hk : RdAt w k (92 :: r) q) : Calls Tryz.prog 234 #[.pointer (some ⟨k, 0, none⟩), .int .u8 92] w fun e w' => e = .returned (.bool true) ∧ w' = w.setCell ⟨k, 0, none⟩ (.string ⟨r.toArray⟩) := takes_yes k 92 r q w hk
theorem takes92_no (k : Nat) (t : List UInt8) (q : Bool) (w : World) (hk : RdAt w k t q) (ht : t.head? ≠ some 92) : Calls Tryz.prog 234 #[.pointer (some ⟨k, 0, none⟩), .int .u8 92] w fun e w' => e = .returned (.bool false) ∧ w' = w := takes_no k 92 t q w hk ht
set_option maxRecDepth 100000 in
set_option maxHeartbeats 4000000 in
theorem quoted_any (s : List UInt8) (w : World) (hs : s.length ≤ 1000000) : Calls Tryz.prog 232 #[.string ⟨s.toArray⟩] w (QuotR (quotedL s) w) := by
  have hkr : RdAt (w.alloc (.cells #[.string ⟨s.toArray⟩, .bool false] 257)) w.heap.size s false := Has.new _ _ _
  have hb0 := Lib.hid ((Below.refl w.heap.size w).alloc (Nat.le_refl _) (.cells #[.string ⟨s.toArray⟩, .bool false] 257))
  have hz0 : (w.alloc (.cells #[.string ⟨s.toArray⟩, .bool false] 257)).heap.size = w.heap.size + 1 := by simp
  by_cases hq : s.head? = some 34
  · obtain ⟨r, rfl⟩ : ∃ r, s = 34 :: r := by
      cases s with
      | nil => cases hq
      | cons b r => obtain rfl : b = 34 := by simpa using hq
                    exact ⟨r, rfl⟩
    have hql : quotedL (34 :: r) = goesL [] r := by show quoteL r = (quoteL r).map _; cases quoteL r <;> rfl
    rw [hql]
    have T0 : Calls Tryz.prog 234 #[.pointer (some ⟨w.heap.size, 0, none⟩), .int .u8 34] _ _ := takes_yes _ 34 r false _ hkr
    have T0' := Lib.hid T0
    have hk1 := hkr.take r
    have hb1 := Lib.hid (hb0.out.setCell (p := ⟨w.heap.size, 0, none⟩) (Nat.le_refl _) (.string ⟨r.toArray⟩))
    have hrl : r.length ≤ 1000000 := by simp at hs; omega
    have hsz : ((w.alloc (.cells #[.string ⟨(34 :: r).toArray⟩, .bool false] 257)).setCell ⟨w.heap.size, 0, none⟩ (.string ⟨r.toArray⟩)).heap.size = w.heap.size + 1 := by simp
    have hk1' := Lib.hid hk1
    have hsz' := Lib.hid hsz
    clear T0 hk1 hkr hb0 hz0 hq hql hs hsz
    generalize hy : 34 :: r = y at *
    clear hy
    unfold QuotR
    go_enter Tryz.func232, Tryz.ntmps232
    go_wp2
    refine wp_scope_on 0 rfl ?_
    go_wp2_with (go_at_call 234; (with_reducible refine Calls.mono T0'.out ?_); rintro e w1 ⟨rfl, hw1⟩; have hk2 := Lib.hid (show RdAt w1 w.heap.size r false by rw [hw1]; exact hk1'.out); have hb2 := Lib.hid (show Below w.heap.size w w1 by rw [hw1]; exact hb1.out); have hsz2 := Lib.hid (show w1.heap.size = w.heap.size + 1 by rw [hw1]; exact hsz'.out); clear hw1 T0' hk1' hb1 hsz')
    go_loopw [4] (fun v W => ∃ (t done : List UInt8), t.length + done.length ≤ r.length ∧ Bs W (w.heap.size + 1) v done ∧ RdAt W w.heap.size t false ∧ goesL [] r = goesL done t ∧ Below w.heap.size w W ∧ w.heap.size + 1 ≤ W.heap.size) (fun _ W => leftN W w.heap.size)
    case atStart => exact ⟨r, [], by simp, bs_nil _ _, hk2.out, rfl, hb2.out, by rw [hsz2.out]; exact Nat.le_refl _⟩
    case round =>
      obtain ⟨t, done, hlen, hbs, hrd, hgo, hb, hsz3⟩ := hrel
      clear hb2 hk2 hsz2
      have hleft := Lib.hid hrd.left
      have hb' := Lib.hid hb
      obtain ⟨Av, cv, hv, hrdv⟩ := hbs.shape
      subst hv
      have hbs' := Lib.hid hbs
      have hrd' := Lib.hid hrd
      by_cases hq : t.head? = some 34
      · obtain ⟨u, rfl⟩ : ∃ u, t = 34 :: u := by
          cases t with
          | nil => cases hq
          | cons b r => obtain rfl : b = 34 := by simpa using hq
                        exact ⟨r, rfl⟩
        have T1 := Lib.hid (takes34_yes _ u false _ hrd)
        have hk3 := Lib.hid (hrd.take u)
        have hb3 := Lib.hid (hb.setCell (p := ⟨w.heap.size, 0, none⟩) (Nat.le_refl _) (.string ⟨u.toArray⟩))
        have hrv3 := hrdv.kept (S := _) (W' := wr.setCell ⟨w.heap.size, 0, none⟩ (.string ⟨u.toArray⟩)) (fun b hb => Below.heap_setCell wr ⟨w.heap.size, 0, none⟩ _ b (by show b ≠ w.heap.size; have : w.heap.size + 1 ≤ b := hb.1; omega))
        have hcv := Lib.hid (hrv3.text (P := Tryz.prog) 86 9 5 cv Tryz.underlying86 Tryz.underlying5 Tryz.underlying9)
        clear hrv3 hrdv hbs hrd hb
        by_cases hu : u = []
        · subst hu
          have hgo' := Lib.hid (show goesL [] r = some done by rw [hgo]; unfold goesL; rw [quoteL_end, if_pos rfl]; simp)
          clear hgo hq
          go_wp2_with (go_at_call 234; (with_reducible refine Calls.mono T1.out ?_); rintro e w1 ⟨rfl, hw1⟩; have hc1 := (show RdAt w1 w.heap.size [] false by rw [hw1]; exact hk3.out).facts.1; have hb4 := Lib.hid (show Below w.heap.size w w1 by rw [hw1]; exact hb3.out); have hcv4 := hcv.out; rw [← hw1] at hcv4; clear hw1 T1 hk3 hb3 hcv)
          simp only [Exit.jump]
          go_ret2
          exact ⟨by rw [hgo'.out]; rfl, hb4.out⟩
        · have hgo' := Lib.hid (show goesL [] r = none by rw [hgo]; unfold goesL; rw [quoteL_end, if_neg hu]; rfl)
          have hne : u.isEmpty = false := by cases u with
            | nil => exact absurd rfl hu
            | cons b r => rfl
          clear hgo hq hu
          go_wp2_with (go_at_call 234; (with_reducible refine Calls.mono T1.out ?_); rintro e w1 ⟨rfl, hw1⟩; have hc1 := (show RdAt w1 w.heap.size u false by rw [hw1]; exact hk3.out).facts.1; have hb4 := Lib.hid (show Below w.heap.size w w1 by rw [hw1]; exact hb3.out); clear hw1 T1 hk3 hb3 hcv)
          go_step3
          refine ⟨rfl, ?_⟩
          go_wp2
          rw [Exit.noGoto_ret]
          exact bodyPost_ret (v := .tuple #[.string ⟨#[]⟩, .int .i64 110]) (by simp [results, Tryz.results232, go_sem]) rfl ⟨by rw [hgo'.out]; rfl, hb4.out⟩
      · have T1 := Lib.hid (takes34_no _ t false _ hrd hq)
        have hbs2 := hbs'
        have hb2 := hb'
        have hrd2 := hrd'
        clear hbs hrd hb
        by_cases he : t.head? = some 92
        · obtain ⟨u, rfl⟩ : ∃ u, t = 92 :: u := by
            cases t with
            | nil => cases he
            | cons b r => obtain rfl : b = 92 := by simpa using he
                          exact ⟨r, rfl⟩
          have T2 := Lib.hid (takes92_yes _ u false _ hrd2.out)
          have hk3 := Lib.hid (hrd2.out.take u)
          have hb3 := Lib.hid (hb2.out.setCell (p := ⟨w.heap.size, 0, none⟩) (Nat.le_refl _) (.string ⟨u.toArray⟩))
          have hbs3 := Lib.hid (hbs2.out.kept (W' := wr.setCell ⟨w.heap.size, 0, none⟩ (.string ⟨u.toArray⟩)) (fun g hg => Below.heap_setCell _ ⟨w.heap.size, 0, none⟩ _ g (by show g ≠ w.heap.size; have := (hbs2.out.own g hg).1; omega)))
          clear hq he
          cases u with
          | nil =>
            have hgo' := Lib.hid (show goesL [] r = none by rw [hgo]; unfold goesL; rw [quoteL_esc1]; rfl)
            clear hgo
            go_wp2_with (first | (go_at_call 234; (with_reducible refine Calls.mono T1.out ?_); rintro e w1 ⟨rfl, hw1⟩; obtain rfl := hw1.symm) | (go_at_call 234; (with_reducible refine Calls.mono T2.out ?_); rintro e w2 ⟨rfl, hw2⟩; have hk4 := Lib.hid (show RdAt w2 w.heap.size [] false by rw [hw2]; exact hk3.out); have hb4 := Lib.hid (show Below w.heap.size w w2 by rw [hw2]; exact hb3.out); have hbs4 := Lib.hid (show Bs w2 (w.heap.size + 1) (.slice Av done.length cv) done by rw [hw2]; exact hbs3.out); have hz4 := (show wr.heap.size = w2.heap.size by rw [hw2]; simp); clear hw2) | (go_at_call 235; (with_reducible refine Calls.mono (next_no _ false _ hk4.out) ?_); rintro e w5 ⟨rfl, hw5⟩; obtain rfl := hw5.symm))
            go_step3
            refine ⟨rfl, ?_⟩
            go_wp2
            rw [Exit.noGoto_ret]
            exact bodyPost_ret (v := .tuple #[.string ⟨#[]⟩, .int .i64 110]) (by simp [results, Tryz.results232, go_sem]) rfl ⟨by rw [hgo'.out]; rfl, hb4.out⟩
          | cons b v =>
            have hql := quoteL_esc2 b v
            have hdl : done.length ≤ 1000000 := by omega
            have hvd : v.length + (done ++ [b]).length ≤ r.length := by simp at hlen ⊢; omega
            cases hv : valB b with
            | false =>
              have hgo' := Lib.hid (show goesL [] r = none by rw [hgo]; exact (goesL_step hql).2 hv)
              have hvl := Lib.hid (fun W => (val_any b W))
              rw [hv] at hvl
              unfold byV at hvl
              clear hgo hv hql
              go_wp2_with (first | (go_at_call 234; (with_reducible refine Calls.mono T1.out ?_); rintro e w1 ⟨rfl, hw1⟩; obtain rfl := hw1.symm) | (go_at_call 234; (with_reducible refine Calls.mono T2.out ?_); rintro e w2 ⟨rfl, hw2⟩; have hk4 := Lib.hid (show RdAt w2 w.heap.size (b :: v) false by rw [hw2]; exact hk3.out); have hb4 := Lib.hid (show Below w.heap.size w w2 by rw [hw2]; exact hb3.out); have hbs4 := Lib.hid (show Bs w2 (w.heap.size + 1) (.slice Av done.length cv) done by rw [hw2]; exact hbs3.out); have hz4 := (show wr.heap.size = w2.heap.size by rw [hw2]; simp); clear hw2) | (go_at_call 235; (with_reducible refine Calls.mono (next_yes _ b v false _ hk4.out) ?_); rintro e w5 ⟨rfl, hw5⟩; have hk5 := Lib.hid (show RdAt w5 w.heap.size v false by rw [hw5]; exact (hk4.out).take v); have hb5 := Lib.hid (show Below w.heap.size w w5 by rw [hw5]; exact (hb4.out).setCell (p := ⟨w.heap.size, 0, none⟩) (Nat.le_refl _) _); have hbs5 := Lib.hid (show Bs w5 (w.heap.size + 1) (.slice Av done.length cv) done by rw [hw5]; exact (hbs4.out).kept (fun g hg => Below.heap_setCell _ ⟨w.heap.size, 0, none⟩ _ g (by show g ≠ w.heap.size; have := ((hbs4.out).own g hg).1; omega))); have hz5 := (show w.heap.size + 1 ≤ w5.heap.size by rw [hw5]; simp; omega); clear hw5) | (go_at_call 77; (with_reducible refine Calls.mono (classes_any _) ?_); rintro e w6 ⟨rfl, hb6⟩) | (go_at_call 105; (with_reducible refine Calls.mono (hvl.out _) ?_); rintro e w7 ⟨rfl, hw7⟩; obtain rfl := hw7.symm))
              go_step3
              refine ⟨rfl, ?_⟩
              go_wp2
              rw [Exit.noGoto_ret]
              exact bodyPost_ret (v := .tuple #[.string ⟨#[]⟩, .int .i64 110]) (by simp [results, Tryz.results232, go_sem]) rfl ⟨by rw [hgo'.out]; rfl, (hb5.out.trans (hb6.mono (by omega)))⟩
            | true =>
              have hgo' := Lib.hid (show goesL [] r = goesL (done ++ [b]) v by rw [hgo]; exact (goesL_step hql).1 hv)
              have hvl := Lib.hid (fun W => (val_any b W))
              rw [hv] at hvl
              unfold byV at hvl
              clear hgo hv hql
              go_wp2_with (first | (go_at_call 234; (with_reducible refine Calls.mono T1.out ?_); rintro e w1 ⟨rfl, hw1⟩; obtain rfl := hw1.symm) | (go_at_call 234; (with_reducible refine Calls.mono T2.out ?_); rintro e w2 ⟨rfl, hw2⟩; have hk4 := Lib.hid (show RdAt w2 w.heap.size (b :: v) false by rw [hw2]; exact hk3.out); have hb4 := Lib.hid (show Below w.heap.size w w2 by rw [hw2]; exact hb3.out); have hbs4 := Lib.hid (show Bs w2 (w.heap.size + 1) (.slice Av done.length cv) done by rw [hw2]; exact hbs3.out); have hz4 := (show wr.heap.size = w2.heap.size by rw [hw2]; simp); clear hw2) | (go_at_call 235; (with_reducible refine Calls.mono (next_yes _ b v false _ hk4.out) ?_); rintro e w5 ⟨rfl, hw5⟩; have hk5 := Lib.hid (show RdAt w5 w.heap.size v false by rw [hw5]; exact (hk4.out).take v); have hb5 := Lib.hid (show Below w.heap.size w w5 by rw [hw5]; exact (hb4.out).setCell (p := ⟨w.heap.size, 0, none⟩) (Nat.le_refl _) _); have hbs5 := Lib.hid (show Bs w5 (w.heap.size + 1) (.slice Av done.length cv) done by rw [hw5]; exact (hbs4.out).kept (fun g hg => Below.heap_setCell _ ⟨w.heap.size, 0, none⟩ _ g (by show g ≠ w.heap.size; have := ((hbs4.out).own g hg).1; omega))); have hz5 := (show w.heap.size + 1 ≤ w5.heap.size by rw [hw5]; simp; omega); clear hw5) | (go_at_call 77; (with_reducible refine Calls.mono (classes_any _) ?_); rintro e w6 ⟨rfl, hb6⟩) | (go_at_call 105; (with_reducible refine Calls.mono (hvl.out _) ?_); rintro e w7 ⟨rfl, hw7⟩; obtain rfl := hw7.symm) | (at_builtin; refine wpList_append_rd rfl _ _ rfl rfl ((hbs5.out.below hb6).below ((Below.refl w6.heap.size w6).alloc (Nat.le_refl _) (.cells #[.int .u8 (b.toNat : Int)] 5))) (· = w6.heap.size) (some ⟨w6.heap.size, 0, none⟩) [b] 1 1 rfl rfl (Has.rd (t := 5) (Has.new w6 _ _)) (by simp; omega) (by simp; have := hb6.size; omega) ?_; intro v8 w8 ho8 hg8; have ho8' := Lib.hid ho8; have hg8' := Lib.hid hg8; clear ho8 hg8))
              have al := (Below.refl w6.heap.size w6).alloc (Nat.le_refl _) (.cells #[.int .u8 (b.toNat : Int)] 5)
              have hbsA := (hbs5.out.below hb6).below al
              have hk8 := ((hk5.out.below hb6).below al).grown hbsA hg8'.out (Nat.lt_succ_self _)
              have hB := ((hb5.out.trans (hb6.mono (by omega))).trans (al.mono (by have := hb6.size; omega))).grown hg8'.out (by simp; have := hb6.size; omega) (fun g e => by have := (hbsA.own g e).1; omega)
              exact ⟨⟨v, done ++ [b], hvd, ho8'.out, hk8, hgo'.out, hB, hk8.lt⟩, by rw [hk8.left, hleft.out]; simp only [List.length_cons]; omega⟩
        · have T2 := Lib.hid (takes92_no _ t false _ hrd2.out he)
          cases t with
          | nil =>
            have hgo' := Lib.hid (show goesL [] r = none by rw [hgo]; rfl)
            clear hgo hq he
            go_wp2_with (first | (go_at_call 234; (with_reducible refine Calls.mono T1.out ?_); rintro e w1 ⟨rfl, hw1⟩; obtain rfl := hw1.symm) | (go_at_call 234; (with_reducible refine Calls.mono T2.out ?_); rintro e w2 ⟨rfl, hw2⟩; obtain rfl := hw2.symm) | (go_at_call 235; (with_reducible refine Calls.mono (next_no _ false _ hrd2.out) ?_); rintro e w5 ⟨rfl, hw5⟩; obtain rfl := hw5.symm))
            go_step3
            refine ⟨rfl, ?_⟩
            go_wp2
            rw [Exit.noGoto_ret]
            exact bodyPost_ret (v := .tuple #[.string ⟨#[]⟩, .int .i64 110]) (by simp [results, Tryz.results232, go_sem]) rfl ⟨by rw [hgo'.out]; rfl, hb2.out⟩
          | cons b v =>
            have hql := quoteL_else (b := b) v (fun e => hq (by rw [e]; rfl)) (fun e => he (by rw [e]; rfl))
            have hdl : done.length ≤ 1000000 := by omega
            have hvd : v.length + (done ++ [b]).length ≤ r.length := by simp at hlen ⊢; omega
            clear hq he
            cases hv : valB b with
            | false =>
              have hgo' := Lib.hid (show goesL [] r = none by rw [hgo]; exact (goesL_step hql).2 hv)
              have hvl := Lib.hid (fun W => (val_any b W))
              rw [hv] at hvl
              unfold byV at hvl
              clear hgo hv hql
              go_wp2_with (first | (go_at_call 234; (with_reducible refine Calls.mono T1.out ?_); rintro e w1 ⟨rfl, hw1⟩; obtain rfl := hw1.symm) | (go_at_call 234; (with_reducible refine Calls.mono T2.out ?_); rintro e w2 ⟨rfl, hw2⟩; obtain rfl := hw2.symm) | (go_at_call 235; (with_reducible refine Calls.mono (next_yes _ b v false _ hrd2.out) ?_); rintro e w5 ⟨rfl, hw5⟩; have hk5 := Lib.hid (show RdAt w5 w.heap.size v false by rw [hw5]; exact (hrd2.out).take v); have hb5 := Lib.hid (show Below w.heap.size w w5 by rw [hw5]; exact (hb2.out).setCell (p := ⟨w.heap.size, 0, none⟩) (Nat.le_refl _) _); have hbs5 := Lib.hid (show Bs w5 (w.heap.size + 1) (.slice Av done.length cv) done by rw [hw5]; exact (hbs2.out).kept (fun g hg => Below.heap_setCell _ ⟨w.heap.size, 0, none⟩ _ g (by show g ≠ w.heap.size; have := ((hbs2.out).own g hg).1; omega))); have hz5 := (show w.heap.size + 1 ≤ w5.heap.size by rw [hw5]; simp; omega); clear hw5) | (go_at_call 77; (with_reducible refine Calls.mono (classes_any _) ?_); rintro e w6 ⟨rfl, hb6⟩) | (go_at_call 105; (with_reducible refine Calls.mono (hvl.out _) ?_); rintro e w7 ⟨rfl, hw7⟩; obtain rfl := hw7.symm))
              go_step3
              refine ⟨rfl, ?_⟩
              go_wp2
              rw [Exit.noGoto_ret]
              exact bodyPost_ret (v := .tuple #[.string ⟨#[]⟩, .int .i64 110]) (by simp [results, Tryz.results232, go_sem]) rfl ⟨by rw [hgo'.out]; rfl, (hb5.out.trans (hb6.mono (by omega)))⟩
            | true =>
              have hgo' := Lib.hid (show goesL [] r = goesL (done ++ [b]) v by rw [hgo]; exact (goesL_step hql).1 hv)
              have hvl := Lib.hid (fun W => (val_any b W))
              rw [hv] at hvl
              unfold byV at hvl
              clear hgo hv hql
              go_wp2_with (first | (go_at_call 234; (with_reducible refine Calls.mono T1.out ?_); rintro e w1 ⟨rfl, hw1⟩; obtain rfl := hw1.symm) | (go_at_call 234; (with_reducible refine Calls.mono T2.out ?_); rintro e w2 ⟨rfl, hw2⟩; obtain rfl := hw2.symm) | (go_at_call 235; (with_reducible refine Calls.mono (next_yes _ b v false _ hrd2.out) ?_); rintro e w5 ⟨rfl, hw5⟩; have hk5 := Lib.hid (show RdAt w5 w.heap.size v false by rw [hw5]; exact (hrd2.out).take v); have hb5 := Lib.hid (show Below w.heap.size w w5 by rw [hw5]; exact (hb2.out).setCell (p := ⟨w.heap.size, 0, none⟩) (Nat.le_refl _) _); have hbs5 := Lib.hid (show Bs w5 (w.heap.size + 1) (.slice Av done.length cv) done by rw [hw5]; exact (hbs2.out).kept (fun g hg => Below.heap_setCell _ ⟨w.heap.size, 0, none⟩ _ g (by show g ≠ w.heap.size; have := ((hbs2.out).own g hg).1; omega))); have hz5 := (show w.heap.size + 1 ≤ w5.heap.size by rw [hw5]; simp; omega); clear hw5) | (go_at_call 77; (with_reducible refine Calls.mono (classes_any _) ?_); rintro e w6 ⟨rfl, hb6⟩) | (go_at_call 105; (with_reducible refine Calls.mono (hvl.out _) ?_); rintro e w7 ⟨rfl, hw7⟩; obtain rfl := hw7.symm) | (at_builtin; refine wpList_append_rd rfl _ _ rfl rfl ((hbs5.out.below hb6).below ((Below.refl w6.heap.size w6).alloc (Nat.le_refl _) (.cells #[.int .u8 (b.toNat : Int)] 5))) (· = w6.heap.size) (some ⟨w6.heap.size, 0, none⟩) [b] 1 1 rfl rfl (Has.rd (t := 5) (Has.new w6 _ _)) (by simp; omega) (by simp; have := hb6.size; omega) ?_; intro v8 w8 ho8 hg8; have ho8' := Lib.hid ho8; have hg8' := Lib.hid hg8; clear ho8 hg8))
              have al := (Below.refl w6.heap.size w6).alloc (Nat.le_refl _) (.cells #[.int .u8 (b.toNat : Int)] 5)
              have hbsA := (hbs5.out.below hb6).below al
              have hk8 := ((hk5.out.below hb6).below al).grown hbsA hg8'.out (Nat.lt_succ_self _)
              have hB := ((hb5.out.trans (hb6.mono (by omega))).trans (al.mono (by have := hb6.size; omega))).grown hg8'.out (by simp; have := hb6.size; omega) (fun g e => by have := (hbsA.own g e).1; omega)
              exact ⟨⟨v, done ++ [b], hvd, ho8'.out, hk8, hgo'.out, hB, hk8.lt⟩, by rw [hk8.left, hleft.out]; simp only [List.length_cons]; omega⟩
  · have hql : quotedL s = none := by
      unfold quotedL
      split
      · rename_i r
        exact absurd rfl hq
      · rfl
    rw [hql]
    have T0 : Calls Tryz.prog 234 #[.pointer (some ⟨w.heap.size, 0, none⟩), .int .u8 34] _ _ := takes_no _ 34 s false _ hkr hq
    have T0' := Lib.hid T0
    clear T0 hkr hz0 hq hql
    unfold QuotR
    go_enter Tryz.func232, Tryz.ntmps232
    go_wp2
    refine wp_scope_on 0 rfl ?_
    go_wp2_with (go_at_call 234; (with_reducible refine Calls.mono T0'.out ?_); rintro e w1 ⟨rfl, rfl⟩)
    go_step3
    refine ⟨rfl, ?_⟩
    go_wp2
    rw [Exit.noGoto_ret]
    exact bodyPost_ret (v := .tuple #[.string ⟨#[]⟩, .int .i64 110]) (by simp [results, Tryz.results232, go_sem]) rfl ⟨rfl, hb0.out⟩
end Go.Proofs.YtbmemkbfignlaaaGreatDoor
