import Derived.Test.YthdmmlaahjgijaaDoorLnG
import Derived.Deep.RegionHeld3
import Derived.Deep.CutRange
import Derived.BigRegion
import Derived.BigQuiet
import Derived.Deep.QuietTactic
namespace Go.Proofs.YthdmmlaahjgijaaDoor
open Go.RowKit Go.Shelf

/-! ## No more of a text than up to a line's end -/
theorem next_split {most : Nat} (l : LSt) (h : l.ok most) (t : List UInt8) (h0 : t ≠ []) : ∃ t' : List UInt8, (l.half = true ∧ t.head? = some 10 → t' = t.drop 1) ∧ (¬ (l.half = true ∧ t.head? = some 10) → t' = t) ∧
    (firstEnd t' = t'.length → runL most l t = ([], ⟨(addB most l.bytes l.long t').1, (addB most l.bytes l.long t').2, false⟩)) ∧
    (∀ (e : Nat) (_ : firstEnd t' = e) (hl : e < t'.length), runL most l t = ((addB most l.bytes l.long (t'.take e)) :: (runL most ⟨[], false, decide (t'[e] = 13)⟩ (t'.drop (e + 1))).1, (runL most ⟨[], false, decide (t'[e] = 13)⟩ (t'.drop (e + 1))).2)) :=
  ⟨skipLF l t, fun hh => by unfold skipLF; rw [if_pos hh], fun hh => by unfold skipLF; rw [if_neg hh], runL_next_end l h t h0, fun e he hl => runL_next_line l h t h0 e he hl⟩
theorem byte13 (c : UInt8) : decide (c = 13) = ((c.toNat : Int) == 13) := by
  rw [Bool.eq_iff_iff, beq_iff_eq, decide_eq_true_iff]
  exact ⟨fun h => by rw [h]; rfl, fun h => UInt8.toNat_inj.1 (by show c.toNat = 13; omega)⟩
theorem Chg.setNew {S : Nat → Prop} {a b : World} (h : Chg S a b) {k : Nat} (hk : a.heap.size ≤ k) (i : Nat) (u : Value) : Chg S a (b.setCell ⟨k, i, none⟩ u) :=
  ⟨h.os, h.tape, h.output, by simpa using h.size, fun j hj hn => (Below.heap_setCell b ⟨k, i, none⟩ u j (by show j ≠ k; omega)).trans (h.block j hj hn)⟩
theorem Chg.set {S : Nat → Prop} {a b : World} (h : Chg S a b) {k : Nat} (hk : S k) (i : Nat) (u : Value) : Chg S a (b.setCell ⟨k, i, none⟩ u) := h.trans (chg_set hk _ _)
theorem Bs.setCell {W : World} {n0 : Nat} {v : Value} {l : List UInt8} (h : Bs W n0 v l) {k i : Nat} {t : TypeId} {cs : Array Value} (hk : Has W k t cs) (ht : t ≠ 5) (u : Value) : Bs (W.setCell ⟨k, i, none⟩ u) n0 v l :=
  h.kept (fun g hg => Below.heap_setCell _ ⟨k, i, none⟩ _ g (fun e => by
    obtain ⟨_, cs', hh⟩ := h.own g hg
    exact hk.apart hh ht e.symm))
def Nexted (S : Nat → Prop) (sp n0 most : Nat) (pp : Value) (ob : Option Nat) (any : Bool) (l : LSt) (t : List UInt8) (w : World) (e : Ending) (w' : World) : Prop :=
  ∃ (vb : Value) (l' : LSt), Has w' sp 90 #[pp, .bool any, vb, .bool l'.long, .int .i64 (most : Int), .bool l'.half] ∧ Bs w' n0 vb l'.bytes ∧ (vb.ownBlock = none ∨ vb.ownBlock = ob ∨ ∃ k, vb.ownBlock = some k ∧ w.heap.size ≤ k) ∧ l'.ok most ∧ Chg (fun k => k = sp ∨ ob = some k) w w' ∧
    ((runL most l t = ([], l') ∧ e = .returned (.tuple #[.agg #[.string ⟨#[]⟩, .bool false], .slice none 0 0, .bool false])) ∨
     (∃ (x : List UInt8) (b : Bool) (rest : List UInt8) (A : Option Addr) (m c : Nat), runL most l t = ((x, b) :: (runL most l' rest).1, (runL most l' rest).2) ∧ m = rest.length ∧ m < t.length ∧ m ≤ c ∧ c ≤ 9223372036854775807 ∧
        e = .returned (.tuple #[.agg #[.string ⟨x.toArray⟩, .bool b], .slice A m c, .bool true]) ∧ Rd w' S A rest))
set_option maxRecDepth 100000 in
set_option maxHeartbeats 4000000 in
theorem next_any (S : Nat → Prop) (sp n0 most : Nat) (pp vb : Value) (any : Bool) (l : LSt) (t : List UInt8) (A : Option Addr) (n c : Nat) (w : World) (hs : Has w sp 90 #[pp, .bool any, vb, .bool l.long, .int .i64 (most : Int), .bool l.half]) (hv : Bs w n0 vb l.bytes)
    (hn0 : n0 ≤ w.heap.size) (hE : Ends w) (hgn : 1 < n0) (hgs : 1 ≠ sp) (hSS : ∀ k, S k → k < w.heap.size ∧ k ≠ sp ∧ vb.ownBlock ≠ some k) (hr : Rd w S A t) (hn : n = t.length) (h0 : 0 < n) (hc : n ≤ c) (hcm : c ≤ 9223372036854775807)
    (hm1 : 1 ≤ most) (hm : most ≤ 65536) (hok : l.ok most) (hb : n ≤ 1000000) :
    Calls Tryd.prog 71 #[.pointer (some ⟨sp, 0, none⟩), .slice A n c] w (Nexted S sp n0 most pp vb.ownBlock any l t w) := by
  obtain ⟨t', hsk1, hsk2, hEnd, hLine⟩ := next_split l hok t (by intro h; subst h; simp at hn; omega)
  have hlt := hs.lt
  have hSS' := Lib.hid hSS
  clear hSS
  obtain ⟨sk, hsk⟩ : ∃ sk : Bool, decide (l.half = true ∧ t.head? = some 10) = sk := ⟨_, rfl⟩
  have hb1 : Below w.heap.size w (w.alloc (.cells #[.string ⟨#[]⟩, .bool false] 70)) := (Below.refl _ _).alloc (Nat.le_refl _) _
  have kR := Has.new w 70 #[.string ⟨#[]⟩, .bool false]
  obtain ⟨w1, hw1⟩ : ∃ w1, w.alloc (.cells #[.string ⟨#[]⟩, .bool false] 70) = w1 := ⟨_, rfl⟩
  have z1 : w1.heap.size = w.heap.size + 1 := by rw [← hw1]; simp
  rw [hw1] at hb1 kR
  have e5 := (hs.below hb1 hlt).cell 5
  have hs' := Lib.hid hs
  have hv' := Lib.hid hv
  have hE' := Lib.hid hE
  have hr' := Lib.hid hr
  have hn' := Lib.hid hn
  have hsk1' := Lib.hid hsk1
  have hsk2' := Lib.hid hsk2
  have hEnd' := Lib.hid hEnd
  have hLine' := Lib.hid hLine
  have hsk' := Lib.hid hsk
  have hb1' := Lib.hid hb1
  have kR' := Lib.hid kR
  have z1' := Lib.hid z1
  have hok' := Lib.hid hok
  clear hs hv hE hr hn hsk1 hsk2 hEnd hLine hsk hb1 kR z1 hok
  have hw1' := Lib.hid hw1
  clear hw1
  go_enter Tryd.func71, Tryd.ntmps71
  go_upto_region 1 with (fail)
  rw [hw1'.out]
  go_cut [19] from 8 to 19 (fun s19 wx => s19 = .bool sk ∧ Below w1.heap.size w1 wx)
  case first =>
    cases hh : l.half with
    | false =>
      have hkf : Hid (sk = false) := Lib.hid (by rw [← hsk'.out, hh]; simp)
      rw [hh] at e5
      clear hh
      go_quiet (fail)
      go_wp2_with fail
      go_meet
      case rel => exact ⟨by rw [hkf.out], below_draws (Below.refl _ _) _⟩
    | true =>
      rw [hh] at e5
      obtain ⟨ad, had, hS, hcell⟩ := hr'.out (by have := hn'.out; omega)
      subst had
      obtain ⟨c0, tr, htr⟩ : ∃ c0 tr, t = c0 :: tr := by
        cases t with
        | nil => have := hn'.out; simp at this; omega
        | cons c0 tr => exact ⟨c0, tr, rfl⟩
      have hc0 := (hb1'.out.cell (p := ad.add 0) (by rw [add_block_]; exact (hSS'.out _ hS).1)).trans (hcell 0 (byt c0) (by rw [htr]; rfl))
      have hce := ((hE'.out.below hb1'.out).cells).2
      have hkf : Hid (sk = ((c0.toNat : Int) == 10)) := Lib.hid (by
        rw [← hsk'.out, hh, htr]
        rw [Bool.eq_iff_iff, beq_iff_eq, decide_eq_true_iff]
        simp only [List.head?_cons, true_and]
        exact ⟨fun h => by rw [Option.some.inj h]; rfl, fun h => congrArg some (UInt8.toNat_inj.1 (by show c0.toNat = 10; omega))⟩)
      unfold byt at hc0
      rw [show ad.add 0 = ad from rfl] at hc0
      have h0i : (0 : Int) < (n : Int) := by omega
      clear hh hS hcell htr
      go_quiet (fail)
      go_wp2_with fail
      go_meet
      case rel => exact ⟨by rw [hkf.out], below_draws (Below.refl _ _) _⟩
  case rest =>
    obtain ⟨rfl, hbx⟩ := hcut
    obtain ⟨w2, hw2⟩ : ∃ w2, w2 = wc := ⟨_, rfl⟩
    subst hw2
    have hb2 := Lib.hid (hb1'.out.trans (hbx.mono hb1'.out.size))
    have kR2 := Lib.hid (kR'.out.below hbx kR'.out.lt)
    have z2 : w.heap.size < w2.heap.size := by have := hbx.size; have := z1'.out; omega
    clear hbx e5
    go_upto_if 19 with (fail)
    go_cut [1] from 20 to 21 (fun s1 wx => ∃ (A' : Option Addr) (n' c' : Nat), s1 = .slice A' n' c' ∧ n' = t'.length ∧ n' ≤ n ∧ n' ≤ c' ∧ c' ≤ 9223372036854775807 ∧ Rd w S A' t' ∧ w2 = wx)
    case first =>
      cases sk with
      | false =>
        have hte := Lib.hid (hsk2'.out (of_decide_eq_false hsk'.out))
        go_wp2_with fail
        go_meet
        case rel => exact ⟨A, n, c, rfl, by rw [hte.out]; exact hn'.out, Nat.le_refl _, hc, hcm, by rw [hte.out]; exact hr'.out, rfl⟩
      | true =>
        have hte := Lib.hid (hsk1'.out (of_decide_eq_true hsk'.out))
        have hnt : Hid (n - 1 = t'.length) := Lib.hid (by rw [hte.out, List.length_drop, ← hn'.out])
        have hrd := Lib.hid (hr'.out.drop 1 c (by have := hn'.out; omega))
        have hc1 : (1 : Int) ≤ (c : Int) := by omega
        have h0i : (1 : Int) ≤ (n : Int) := by omega
        obtain ⟨ad, had, _⟩ := hr'.out (by have := hn'.out; omega)
        subst had
        by_cases hce : c = 1
        · subst hce
          go_wp2_with fail
          go_meet
          case rel => exact ⟨some ad, 0, 0, rfl, by have := hnt.out; omega, by omega, by omega, by omega, by rw [hte.out]; simpa using hrd.out, rfl⟩
        · go_wp2_with fail
          go_meet
          case rel => exact ⟨some (ad.add 1), n - 1, c - 1, rfl, hnt.out, by omega, by omega, by omega, by rw [hte.out]; have := hrd.out; rw [if_neg hce] at this; exact this, rfl⟩
    case rest =>
      obtain ⟨A', n', c', rfl, hn2, hnn, hnc, hcm2, hr2, hw2⟩ := hcut
      subst hw2
      have hs2 := hs'.out.below hb2.out hlt
      have e5 := hs2.cell 5
      have f5 := hs2.free 5
      have hs3 : Has (w2.setCell ⟨sp, 5, none⟩ (.bool false)) sp 90 #[pp, .bool any, vb, .bool l.long, .int .i64 (most : Int), .bool false] := by simpa using hs2.put 5 (.bool false)
      have hC3 : Chg (· = sp) w (w2.setCell ⟨sp, 5, none⟩ (.bool false)) := (Chg.of_below hb2.out).trans (chg_set (S := (· = sp)) (k := sp) (i := 5) rfl _ _)
      have kR3 : Has (w2.setCell ⟨sp, 5, none⟩ (.bool false)) w.heap.size 70 #[.string ⟨#[]⟩, .bool false] := kR2.out.other (by omega) _
      have hn2' := Lib.hid hn2
      have hr2' := Lib.hid hr2
      clear hs2 hn2 hr2
      obtain ⟨w3, hw3⟩ : ∃ w3, w2.setCell ⟨sp, 5, none⟩ (.bool false) = w3 := ⟨_, rfl⟩
      have z3 : w.heap.size < w3.heap.size := by rw [← hw3]; simpa using z2
      rw [hw3] at hs3 hC3 kR3
      have hw3' := Lib.hid hw3
      have hs3' := Lib.hid hs3
      have hC3' := Lib.hid hC3
      have kR3' := Lib.hid kR3
      clear hw3 hs3 hC3 kR3
      go_wp2_with fail
      rw [hw3'.out]
      have hE3 : Ends w3 := hE'.out.kept (hC3'.out.block _ hE'.out.lt hgs)
      have hr3 : Rd w3 S A' t' := hr2'.out.kept (fun k hk => hC3'.out.block k (hSS'.out _ hk).1 (hSS'.out _ hk).2.1)
      have hv3 : Bs w3 n0 vb l.bytes := hv'.out.kept (fun g hg => hC3'.out.block g (hv'.out.own g hg).2.choose_spec.lt (fun e => by
        obtain ⟨_, cs, hh⟩ := hv'.out.own g hg
        exact Has.apart hs'.out hh (by decide) e.symm))
      have hsz3 := hC3'.out.size
      refine (first_end A' t' n' c' w3 hn2'.out (hr3.mono (fun k hk => by have := (hSS'.out _ hk).1; omega)) hE3 (by omega)).mono ?_
      rintro e w4 ⟨rfl, rfl⟩
      obtain ⟨e, he⟩ : ∃ e, firstEnd t' = e := ⟨_, rfl⟩
      have hele : e ≤ n' := by have := firstEnd_le t'; have := hn2'.out; omega
      rw [he]
      obtain ⟨x, hx⟩ : ∃ x, t'.take e = x := ⟨_, rfl⟩
      have hxl : e = x.length := by rw [← hx, List.length_take]; have := hn2'.out; omega
      have hxr : Rd w3.drew S A' x := by rw [← hx]; exact (hr3.take e).kept (fun _ _ => rfl)
      obtain ⟨ab, hab⟩ : ∃ ab, addB most l.bytes l.long x = ab := ⟨_, rfl⟩
      have hadd := add_any sp n0 most pp (.int .i64 (most : Int)) vb any false l.long l.bytes x A' e e _ w3.drew hs3'.out.drew (hv3.kept (fun _ _ => rfl)) (by show n0 ≤ w3.heap.size; omega) hxr hxl hm (by have := hok'.out.1; omega) (by omega)
      unfold Added at hadd
      rw [hab] at hadd
      have e4 := hs3'.out.cell 4
      have e4d : w3.drew.cell? ⟨sp, 4, none⟩ = some (.int .i64 (most : Int)) := e4
      have hadd' := Lib.hid hadd
      have hE3' := Lib.hid hE3
      have hr3' := Lib.hid hr3
      have hv3' := Lib.hid hv3
      have he' := Lib.hid he
      have hx' := Lib.hid hx
      have hxl' := Lib.hid hxl
      have hab' := Lib.hid hab
      have hei : (e : Int) ≤ (c' : Int) := by omega
      have he0 : (0 : Int) ≤ (e : Int) := by omega
      clear hadd hE3 hr3 hv3 he hx hxl hxr hab
      clear e5 f5
      go_wp2_with fail
      go_region_held3 (fun W => W.cell? ⟨sp, 4, none⟩ = some (.int .i64 (most : Int)))
        (first
        | with_reducible exact e4d
        | with_reducible exact e44
        | fail)
        (first
        | (go_at_call 78; (with_reducible refine Calls.mono hadd'.out ?_); rintro e9 w4 ⟨⟨v4, rfl⟩, ⟨vb4, hs4, hv4, ho4⟩, hC4⟩; have e44 : w4.cell? ⟨sp, 4, none⟩ = some (.int .i64 (most : Int)) := hs4.cell 4; have hs4' := Lib.hid hs4; have hv4' := Lib.hid hv4; have ho4' := Lib.hid ho4; have hC4' := Lib.hid hC4; clear hs4 hv4 ho4 hC4)
        | fail)
      clear e4 e4d e44
      have hb4 : Below w.heap.size w w3 → True := fun _ => trivial
      have hC4 : Chg (fun k => k = sp ∨ vb.ownBlock = some k) w w4 := (hC3'.out.mono (fun k _ h => .inl h)).trans ((show Chg _ w3 w3.drew from ⟨rfl, rfl, rfl, Nat.le_refl _, fun _ _ _ => rfl⟩).trans hC4'.out)
      have hobn : ∀ k, vb.ownBlock = some k → k < w.heap.size := fun k hk => (hv'.out.own k hk).2.choose_spec.lt
      have kR4 : Has w4 w.heap.size 70 #[.string ⟨#[]⟩, .bool false] := by
        refine hC4'.out.has ?_ kR3'.out.drew
        rintro (h | h)
        · omega
        · have := hobn _ h; omega
      have kR4' := Lib.hid kR4
      have g0 := kR4.cell 0
      have g1 := kR4.cell 1
      have q0 := kR4.free 0
      have q1 := kR4.free 1
      have z4 : w.heap.size < w4.heap.size := by have := kR4.lt; omega
      have hCw4 := Lib.hid hC4
      have hobn' := Lib.hid hobn
      have habok := Lib.hid (show ab.1.length ≤ most ∧ (ab.2 = true → ab.1 = []) by rw [← hab'.out]; exact addB_ok)
      clear kR4 hC4 hobn hb4
      by_cases hen : e = n'
      · have hrun := hEnd'.out (by rw [he'.out]; exact hen.trans hn2'.out)
        have hxt : x = t' := by rw [← hx'.out, hen, hn2'.out, List.take_length]
        rw [← hxt, hab'.out] at hrun
        have hrun' := Lib.hid hrun
        clear hrun
        subst hen
        go_wp2_with fail
        have kR5 := Lib.hid ((kR4'.out.put 0 (.string ⟨#[]⟩)).put 1 (.bool false))
        have x0 := kR5.out.cell 0
        have x1 := kR5.out.cell 1
        refine bodyPost_ret (v := .tuple #[.agg #[.string ⟨#[]⟩, .bool false], .slice none 0 0, .bool false]) (by simp [results, Tryd.results71, go_sem, x0, x1]) rfl ?_
        refine ⟨vb4, ⟨ab.1, ab.2, false⟩, (hs4'.out.other (by omega) _).other (by omega) _, (hv4'.out.setCell kR4'.out (by decide) _).setCell (kR4'.out.put 0 _) (by decide) _, ?_, habok.out, (hCw4.out.setNew (Nat.le_refl _) _ _).setNew (Nat.le_refl _) _ _, .inl ⟨hrun'.out, rfl⟩⟩
        rcases ho4'.out with h | h | h
        · exact .inl h
        · exact .inr (.inl h)
        · exact .inr (.inr ⟨_, h, hsz3⟩)
      · have hel : e < t'.length := by have := hn2'.out; omega
        have hrun := hLine'.out e he'.out hel
        rw [hx'.out, hab'.out, byte13] at hrun
        have hr4 : Rd w4 S A' t' := hr2'.out.kept (fun k hk => hCw4.out.block k (hSS'.out _ hk).1 (fun h => h.elim (hSS'.out _ hk).2.1 (hSS'.out _ hk).2.2))
        obtain ⟨ad, had, hS, hcell⟩ := hr4 (by omega)
        subst had
        have hce := hcell e (byt t'[e]) (byts_at hel)
        unfold byt at hce
        generalize t'[e].toNat = cn at hce hrun
        have hE4 : Ends w4 := hE'.out.kept (hCw4.out.block _ hE'.out.lt (fun h => h.elim hgs (fun h => by have := (hv'.out.own _ h).1; omega)))
        have hce0 := (hE4.cells).1
        have e5 : w4.cell? ⟨sp, 5, none⟩ = some (.bool false) := hs4'.out.cell 5
        have f5 := hs4'.out.free 5
        have heni : (e : Int) < (n' : Int) := by omega
        have henb : ((e : Int) == (n' : Int)) = false := by rw [beq_eq_false_iff_ne]; omega
        have henn : (e == n') = false := by rw [beq_eq_false_iff_ne]; exact hen
        have hr4' := Lib.hid hr4
        have hrun' := Lib.hid hrun
        have hE4' := Lib.hid hE4
        have hel' := Lib.hid hel
        have hs5 : Has ((w4.setCell ⟨sp, 5, none⟩ (.bool ((cn : Int) == 13))).drew) sp 90 #[pp, .bool any, vb4, .bool ab.2, .int .i64 (most : Int), .bool ((cn : Int) == 13)] := (show Has (w4.setCell ⟨sp, 5, none⟩ (.bool ((cn : Int) == 13))) sp 90 #[pp, .bool any, vb4, .bool ab.2, .int .i64 (most : Int), .bool ((cn : Int) == 13)] by simpa using hs4'.out.put 5 (.bool ((cn : Int) == 13))).drew
        have hs5' := Lib.hid hs5
        have hC5 := Lib.hid (show Chg (fun k => k = sp ∨ vb.ownBlock = some k) w ((w4.setCell ⟨sp, 5, none⟩ (.bool ((cn : Int) == 13))).drew) from (hCw4.out.set (.inl rfl) 5 (.bool ((cn : Int) == 13))).drewN 1)
        have hv5 := Lib.hid (show Bs ((w4.setCell ⟨sp, 5, none⟩ (.bool ((cn : Int) == 13))).drew) n0 vb4 ab.1 from (hv4'.out.setCell hs4'.out (by decide) _).kept (fun _ _ => rfl))
        have kR5 := Lib.hid (show Has ((w4.setCell ⟨sp, 5, none⟩ (.bool ((cn : Int) == 13))).drew) w.heap.size 70 #[.string ⟨#[]⟩, .bool false] from kR4'.out.other (by omega) _)
        clear hr4 hrun hE4 hel hS hcell g0 g1 q0 q1 hs5
        obtain ⟨w5, hw5⟩ : ∃ w5, (w4.setCell ⟨sp, 5, none⟩ (.bool ((cn : Int) == 13))).drew = w5 := ⟨_, rfl⟩
        have hw5' := Lib.hid hw5
        rw [hw5] at hs5' hC5 hv5 kR5
        clear hw5
        go_wp2_with fail
        go_region
        go_wp2_with fail
        rw [hw5'.out]
        refine (line_any sp n0 pp (.int .i64 (most : Int)) vb4 any ((cn : Int) == 13) ab.2 ab.1 w5 hs5'.out hv5.out).mono ?_
        rintro e9 w6 ⟨rfl, hb6⟩
        have hs6 := hs5'.out.below hb6 hs5'.out.lt
        have kR6 := kR5.out.below hb6 kR5.out.lt
        have hC6 := Lib.hid (hC5.out.trans (Chg.of_below hb6))
        have hne1 : ¬ sp = w.heap.size := by omega
        have hne2 : ¬ w.heap.size = sp := by omega
        have hs7 := Lib.hid (show Has ((((w6.setCell ⟨w.heap.size, 0, none⟩ (.string ⟨ab.1.toArray⟩)).setCell ⟨w.heap.size, 1, none⟩ (.bool ab.2)).setCell ⟨sp, 2, none⟩ (.slice none 0 0)).setCell ⟨sp, 3, none⟩ (.bool false)) sp 90 #[pp, .bool any, .slice none 0 0, .bool false, .int .i64 (most : Int), .bool ((cn : Int) == 13)] by
          simpa using ((((hs6.other hne1 _).other hne1 _).put 2 (.slice none 0 0)).put 3 (.bool false)))
        have kR7 := Lib.hid (show Has ((((w6.setCell ⟨w.heap.size, 0, none⟩ (.string ⟨ab.1.toArray⟩)).setCell ⟨w.heap.size, 1, none⟩ (.bool ab.2)).setCell ⟨sp, 2, none⟩ (.slice none 0 0)).setCell ⟨sp, 3, none⟩ (.bool false)) w.heap.size 70 #[.string ⟨ab.1.toArray⟩, .bool ab.2] by
          simpa using ((((kR6.put 0 (.string ⟨ab.1.toArray⟩)).put 1 (.bool ab.2)).other hne2 _).other hne2 _))
        have hC7 := Lib.hid ((((hC6.out.setNew (Nat.le_refl _) 0 (.string ⟨ab.1.toArray⟩)).setNew (Nat.le_refl _) 1 (.bool ab.2)).set (k := sp) (.inl rfl) 2 (.slice none 0 0)).set (k := sp) (.inl rfl) 3 (.bool false))
        have e2 := hs6.cell 2
        have e3 := hs6.cell 3
        have f2 := hs6.free 2
        have f3 := hs6.free 3
        have g0 := kR6.cell 0
        have g1 := kR6.cell 1
        have q0 := kR6.free 0
        have q1 := kR6.free 1
        have hw5x := hw5'.out
        clear hb6 hs6 kR6 e5 f5 hce hce0 hw5x
        go_wp2_with fail
        obtain ⟨w7, hw7⟩ : ∃ w7, (((w6.setCell ⟨w.heap.size, 0, none⟩ (.string ⟨ab.1.toArray⟩)).setCell ⟨w.heap.size, 1, none⟩ (.bool ab.2)).setCell ⟨sp, 2, none⟩ (.slice none 0 0)).setCell ⟨sp, 3, none⟩ (.bool false) = w7 := ⟨_, rfl⟩
        rw [hw7] at hs7 kR7 hC7 ⊢
        clear hw7 e2 e3 f2 f3 g0 g1 q0 q1
        have g0 := kR7.out.cell 0
        have g1 := kR7.out.cell 1
        have q0 := kR7.out.free 0
        have q1 := kR7.out.free 1
        have h1i : (e : Int) + 1 ≤ (n' : Int) := by omega
        have h2i : (e : Int) + 1 ≤ (c' : Int) := by omega
        have kR8 := Lib.hid (show Has ((w7.setCell ⟨w.heap.size, 0, none⟩ (.string ⟨ab.1.toArray⟩)).setCell ⟨w.heap.size, 1, none⟩ (.bool ab.2)).drew w.heap.size 70 #[.string ⟨ab.1.toArray⟩, .bool ab.2] from (show Has ((w7.setCell ⟨w.heap.size, 0, none⟩ (.string ⟨ab.1.toArray⟩)).setCell ⟨w.heap.size, 1, none⟩ (.bool ab.2)) w.heap.size 70 #[.string ⟨ab.1.toArray⟩, .bool ab.2] by simpa using (kR7.out.put 0 (.string ⟨ab.1.toArray⟩)).put 1 (.bool ab.2)).drew)
        go_region
        obtain ⟨AR, hAR⟩ : ∃ AR : Option Addr, (if c' = e + 1 then some ad else some { block := ad.block, off := ad.off + (e + 1) }) = AR := ⟨_, rfl⟩
        rw [hAR]
        have hAR' := Lib.hid hAR
        clear hAR
        go_wp2_with fail
        have x0 := kR8.out.cell 0
        have x1 := kR8.out.cell 1
        refine bodyPost_ret (v := .tuple #[.agg #[.string ⟨ab.1.toArray⟩, .bool ab.2], .slice AR (n' - (e + 1)) (c' - (e + 1)), .bool true]) (by simp [results, Tryd.results71, go_sem, x0, x1]) rfl ?_
        have hC8 : Chg (fun k => k = sp ∨ vb.ownBlock = some k) w ((w7.setCell ⟨w.heap.size, 0, none⟩ (.string ⟨ab.1.toArray⟩)).setCell ⟨w.heap.size, 1, none⟩ (.bool ab.2)).drew := ((hC7.out.setNew (Nat.le_refl _) 0 (.string ⟨ab.1.toArray⟩)).setNew (Nat.le_refl _) 1 (.bool ab.2)).drewN 1
        have hs8 : Has ((w7.setCell ⟨w.heap.size, 0, none⟩ (.string ⟨ab.1.toArray⟩)).setCell ⟨w.heap.size, 1, none⟩ (.bool ab.2)).drew sp 90 #[pp, .bool any, .slice none 0 0, .bool false, .int .i64 (most : Int), .bool ((cn : Int) == 13)] := ((hs7.out.other hne1 _).other hne1 _).drew
        have hrd := (hr2'.out.kept (W' := ((w7.setCell ⟨w.heap.size, 0, none⟩ (.string ⟨ab.1.toArray⟩)).setCell ⟨w.heap.size, 1, none⟩ (.bool ab.2)).drew) (fun k hk => hC8.block k (hSS'.out _ hk).1 (fun h => h.elim (hSS'.out _ hk).2.1 (hSS'.out _ hk).2.2))).drop (e + 1) c' (by have := hn2'.out; omega)
        have hlen : n' - (e + 1) = (t'.drop (e + 1)).length := by rw [List.length_drop, hn2'.out]
        have hnt := hn'.out
        refine ⟨.slice none 0 0, ⟨[], false, (cn : Int) == 13⟩, hs8, bs_nil _ _, .inl rfl, ⟨Nat.zero_le _, fun _ => rfl⟩, hC8, .inr ⟨ab.1, ab.2, t'.drop (e + 1), _, n' - (e + 1), c' - (e + 1), hrun'.out, hlen, by omega, by omega, by omega, rfl, ?_⟩⟩
        rw [← hAR'.out]
        simpa [Addr.add] using hrd
end Go.Proofs.YthdmmlaahjgijaaDoor
