import Derived.Test.YtlcfpnegpihicaaGreatDoorPw13
import Derived.Deep.RegionHeld3
import Derived.Deep.CutRange
import Derived.BigRegion
import Derived.BigQuiet
import Derived.Deep.QuietTactic
import Derived.Test.YtlcfpnegpihicaaGreatDoorPw11
import Derived.Deep.RegionLaw
namespace Go.Proofs.YtlcfpnegpihicaaGreatDoor
open Go.RowKit Go.Shelf

/-! ## No more of a text than up to a line's end -/
theorem next_split {most : Nat} (l : LSt) (h : l.ok most) (t : List UInt8) (h0 : t ≠ []) : ∃ t' : List UInt8, (l.half = true ∧ t.head? = some 10 → t' = t.drop 1) ∧ (¬ (l.half = true ∧ t.head? = some 10) → t' = t) ∧
    (firstEnd t' = t'.length → runL most l t = ([], ⟨(addB most l.bytes l.long t').1, (addB most l.bytes l.long t').2, false⟩)) ∧
    (∀ (e : Nat) (_ : firstEnd t' = e) (hl : e < t'.length), runL most l t = ((addB most l.bytes l.long (t'.take e)) :: (runL most ⟨[], false, decide (t'[e] = 13)⟩ (t'.drop (e + 1))).1, (runL most ⟨[], false, decide (t'[e] = 13)⟩ (t'.drop (e + 1))).2)) :=
  ⟨skipLF l t, fun hh => by unfold skipLF; rw [if_pos hh], fun hh => by unfold skipLF; rw [if_neg hh], runL_next_end l h t h0, fun e he hl => runL_next_line l h t h0 e he hl⟩
theorem byte13 (c : UInt8) : decide (c = 13) = ((c.toNat : Int) == 13) := by
  rw [Bool.eq_iff_iff, beq_iff_eq, decide_eq_true_iff]
  exact ⟨fun h => by rw [h]; rfl, fun h => UInt8.toNat_inj.1 (by show c.toNat = 13; omega)⟩
theorem Chg.setNew {S : Nat → Prop} {a b : World} (h : Chg S a b) {k : Nat} (hk : a.heap.size ≤ k) (i : Nat) (u : Value) : Chg S a (b.setCell ⟨k, i, none⟩ u) :=
  ⟨h.os, h.tape, h.output, by simpa using h.size, fun j hj hn => (Below.heap_setCell b ⟨k, i, none⟩ u j (by show j ≠ k; omega)).trans (h.block j hj hn)⟩
theorem Chg.set {S : Nat → Prop} {a b : World} (h : Chg S a b) {k : Nat} (hk : S k) (i : Nat) (u : Value) : Chg S a (b.setCell ⟨k, i, none⟩ u) := h.trans (chg_set hk _ _)
theorem Bs.setCell {W : World} {n0 : Nat} {v : Value} {l : List UInt8} (h : Bs W n0 v l) {k i : Nat} {t : TypeId} {cs : Array Value} (hk : Has W k t cs) (ht : t ≠ 5) (u : Value) : Bs (W.setCell ⟨k, i, none⟩ u) n0 v l :=
  h.kept (fun g hg => Below.heap_setCell _ ⟨k, i, none⟩ _ g (fun e => by
    obtain ⟨_, cs', hh⟩ := h.own g hg
    exact hk.apart hh ht e.symm))
def Nexted (S : Nat → Prop) (sp n0 most : Nat) (pp : Value) (ob : Option Nat) (any : Bool) (l : LSt) (t : List UInt8) (w : World) (e : Ending) (w' : World) : Prop :=
  ∃ (vb : Value) (l' : LSt), Has w' sp 168 #[pp, .bool any, vb, .bool l'.long, .int .i64 (most : Int), .bool l'.half] ∧ Bs w' n0 vb l'.bytes ∧ (vb.ownBlock = none ∨ vb.ownBlock = ob ∨ ∃ k, vb.ownBlock = some k ∧ w.heap.size ≤ k) ∧ l'.ok most ∧ Chg (fun k => k = sp ∨ ob = some k) w w' ∧
    ((runL most l t = ([], l') ∧ e = .returned (.tuple #[.agg #[.string ⟨#[]⟩, .bool false], .slice none 0 0, .bool false])) ∨
     (∃ (x : List UInt8) (b : Bool) (rest : List UInt8) (A : Option Addr) (m c : Nat), runL most l t = ((x, b) :: (runL most l' rest).1, (runL most l' rest).2) ∧ m = rest.length ∧ m < t.length ∧ m ≤ c ∧ c ≤ 9223372036854775807 ∧
        e = .returned (.tuple #[.agg #[.string ⟨x.toArray⟩, .bool b], .slice A m c, .bool true]) ∧ Rd w' S A rest))
set_option maxRecDepth 100000 in
set_option maxHeartbeats 4000000 in
theorem nextLn_any (S : Nat → Prop) (sp n0 most : Nat) (pp vb : Value) (any : Bool) (l : LSt) (t : List UInt8) (A : Option Addr) (n c : Nat) (w : World) (hs : Has w sp 168 #[pp, .bool any, vb, .bool l.long, .int .i64 (most : Int), .bool l.half]) (hv : Bs w n0 vb l.bytes)
    (hn0 : n0 ≤ w.heap.size) (hE : Ends w) (hgn : 2 < n0) (hgs : 2 ≠ sp) (hSS : ∀ k, S k → k < w.heap.size ∧ k ≠ sp ∧ vb.ownBlock ≠ some k) (hr : Rd w S A t) (hn : n = t.length) (h0 : 0 < n) (hc : n ≤ c) (hcm : c ≤ 9223372036854775807)
    (hm1 : 1 ≤ most) (hm : most ≤ 65536) (hok : l.ok most) (hb : n ≤ 1000000) :
    Calls Tryz.prog 102 #[.pointer (some ⟨sp, 0, none⟩), .slice A n c] w (Nexted S sp n0 most pp vb.ownBlock any l t w) := by
  obtain ⟨t', hsk1, hsk2, hEnd, hLine⟩ := next_split l hok t (by intro h; subst h; simp at hn; omega)
  have hlt := hs.lt
  have hSS' := Lib.hid hSS
  clear hSS
  obtain ⟨sk, hsk⟩ : ∃ sk : Bool, decide (l.half = true ∧ t.head? = some 10) = sk := ⟨_, rfl⟩
  have hb1 : Below w.heap.size w (w.alloc (.cells #[.string ⟨#[]⟩, .bool false] 92)) := (Below.refl _ _).alloc (Nat.le_refl _) _
  have kR := Has.new w 92 #[.string ⟨#[]⟩, .bool false]
  obtain ⟨w1, hw1⟩ : ∃ w1, w.alloc (.cells #[.string ⟨#[]⟩, .bool false] 92) = w1 := ⟨_, rfl⟩
  have z1 : w1.heap.size = w.heap.size + 1 := by rw [← hw1]; simp
  rw [hw1] at hb1 kR
  have e5 := (hs.below hb1 hlt).cell 5
  have hs' := Lib.hid hs
  have hv' := Lib.hid hv
  have hE' := Lib.hid hE
  have hr' := Lib.hid hr
  have hn' := Lib.hid hn
  have hsk1' := Lib.hid hsk1
  have hsk2' := Lib.hid hsk2
  have hEnd' := Lib.hid hEnd
  have hLine' := Lib.hid hLine
  have hsk' := Lib.hid hsk
  have hb1' := Lib.hid hb1
  have kR' := Lib.hid kR
  have z1' := Lib.hid z1
  have hok' := Lib.hid hok
  clear hs hv hE hr hn hsk1 hsk2 hEnd hLine hsk hb1 kR z1 hok
  have hw1' := Lib.hid hw1
  clear hw1
  go_enter Tryz.func102, Tryz.ntmps102
  go_upto_region 1 with (fail)
  rw [hw1'.out]
  go_cut [19] from 8 to 19 (fun s19 wx => s19 = .bool sk ∧ Below w1.heap.size w1 wx)
  case first =>
    cases hh : l.half with
    | false =>
      have hkf : Hid (sk = false) := Lib.hid (by rw [← hsk'.out, hh]; simp)
      rw [hh] at e5
      clear hh
      go_quiet (fail)
      go_wp2_with fail
      go_meet
      case rel => exact ⟨by rw [hkf.out], below_draws (Below.refl _ _) _⟩
    | true =>
      rw [hh] at e5
      obtain ⟨ad, had, hS, hcell⟩ := hr'.out (by have := hn'.out; omega)
      subst had
      obtain ⟨c0, tr, htr⟩ : ∃ c0 tr, t = c0 :: tr := by
        cases t with
        | nil => have := hn'.out; simp at this; omega
        | cons c0 tr => exact ⟨c0, tr, rfl⟩
      have hc0 := (hb1'.out.cell (p := ad.add 0) (by rw [add_block_]; exact (hSS'.out _ hS).1)).trans (hcell 0 (byt c0) (by rw [htr]; rfl))
      have hce := ((hE'.out.below hb1'.out).cells).2
      have hkf : Hid (sk = ((c0.toNat : Int) == 10)) := Lib.hid (by
        rw [← hsk'.out, hh, htr]
        rw [Bool.eq_iff_iff, beq_iff_eq, decide_eq_true_iff]
        simp only [List.head?_cons, true_and]
        exact ⟨fun h => by rw [Option.some.inj h]; rfl, fun h => congrArg some (UInt8.toNat_inj.1 (by show c0.toNat = 10; omega))⟩)
      unfold byt at hc0
      rw [show ad.add 0 = ad from rfl] at hc0
      have h0i : (0 : Int) < (n : Int) := by omega
      clear hh hS hcell htr
      go_quiet (fail)
      go_wp2_with fail
      go_meet
      case rel => exact ⟨by rw [hkf.out], below_draws (Below.refl _ _) _⟩
  case rest =>
    obtain ⟨rfl, hbx⟩ := hcut
    obtain ⟨w2, hw2⟩ : ∃ w2, w2 = wc := ⟨_, rfl⟩
    subst hw2
    have hb2 := Lib.hid (hb1'.out.trans (hbx.mono hb1'.out.size))
    have kR2 := Lib.hid (kR'.out.below hbx kR'.out.lt)
    have z2 : w.heap.size < w2.heap.size := by have := hbx.size; have := z1'.out; omega
    clear hbx e5
    go_upto_if 19 with (fail)
    go_cut [1] from 20 to 21 (fun s1 wx => ∃ (A' : Option Addr) (n' c' : Nat), s1 = .slice A' n' c' ∧ n' = t'.length ∧ n' ≤ n ∧ n' ≤ c' ∧ c' ≤ 9223372036854775807 ∧ Rd w S A' t' ∧ w2 = wx)
    case first =>
      cases sk with
      | false =>
        have hte := Lib.hid (hsk2'.out (of_decide_eq_false hsk'.out))
        go_wp2_with fail
        go_meet
        case rel => exact ⟨A, n, c, rfl, by rw [hte.out]; exact hn'.out, Nat.le_refl _, hc, hcm, by rw [hte.out]; exact hr'.out, rfl⟩
      | true =>
        have hte := Lib.hid (hsk1'.out (of_decide_eq_true hsk'.out))
        have hnt : Hid (n - 1 = t'.length) := Lib.hid (by rw [hte.out, List.length_drop, ← hn'.out])
        have hrd := Lib.hid (hr'.out.drop 1 c (by have := hn'.out; omega))
        have hc1 : (1 : Int) ≤ (c : Int) := by omega
        have h0i : (1 : Int) ≤ (n : Int) := by omega
        obtain ⟨ad, had, _⟩ := hr'.out (by have := hn'.out; omega)
        subst had
        by_cases hce : c = 1
        · subst hce
          go_wp2_with fail
          go_meet
          case rel => exact ⟨some ad, 0, 0, rfl, by have := hnt.out; omega, by omega, by omega, by omega, by rw [hte.out]; simpa using hrd.out, rfl⟩
        · go_wp2_with fail
          go_meet
          case rel => exact ⟨some (ad.add 1), n - 1, c - 1, rfl, hnt.out, by omega, by omega, by omega, by rw [hte.out]; have := hrd.out; rw [if_neg hce] at this; exact this, rfl⟩
    case rest =>
      obtain ⟨A', n', c', rfl, hn2, hnn, hnc, hcm2, hr2, hw2⟩ := hcut
      subst hw2
      have hs2 := hs'.out.below hb2.out hlt
      have e5 := hs2.cell 5
      have f5 := hs2.free 5
      have hs3 : Has (w2.setCell ⟨sp, 5, none⟩ (.bool false)) sp 168 #[pp, .bool any, vb, .bool l.long, .int .i64 (most : Int), .bool false] := by simpa using hs2.put 5 (.bool false)
      have hC3 : Chg (· = sp) w (w2.setCell ⟨sp, 5, none⟩ (.bool false)) := (Chg.of_below hb2.out).trans (chg_set (S := (· = sp)) (k := sp) (i := 5) rfl _ _)
      have kR3 : Has (w2.setCell ⟨sp, 5, none⟩ (.bool false)) w.heap.size 92 #[.string ⟨#[]⟩, .bool false] := kR2.out.other (by omega) _
      have hn2' := Lib.hid hn2
      have hr2' := Lib.hid hr2
      clear hs2 hn2 hr2
      obtain ⟨w3, hw3⟩ : ∃ w3, w2.setCell ⟨sp, 5, none⟩ (.bool false) = w3 := ⟨_, rfl⟩
      have z3 : w.heap.size < w3.heap.size := by rw [← hw3]; simpa using z2
      rw [hw3] at hs3 hC3 kR3
      have hw3' := Lib.hid hw3
      have hs3' := Lib.hid hs3
      have hC3' := Lib.hid hC3
      have kR3' := Lib.hid kR3
      clear hw3 hs3 hC3 kR3
      go_wp2_with fail
      rw [hw3'.out]
      have hE3 : Ends w3 := hE'.out.kept (hC3'.out.block _ hE'.out.lt hgs)
      have hr3 : Rd w3 S A' t' := hr2'.out.kept (fun k hk => hC3'.out.block k (hSS'.out _ hk).1 (hSS'.out _ hk).2.1)
      have hv3 : Bs w3 n0 vb l.bytes := hv'.out.kept (fun g hg => hC3'.out.block g (hv'.out.own g hg).2.choose_spec.lt (fun e => by
        obtain ⟨_, cs, hh⟩ := hv'.out.own g hg
        exact Has.apart hs'.out hh (by decide) e.symm))
      have hsz3 := hC3'.out.size
      refine (first_end A' t' n' c' w3 hn2'.out (hr3.mono (fun k hk => by have := (hSS'.out _ hk).1; omega)) hE3 (by omega)).mono ?_
      rintro e w4 ⟨rfl, rfl⟩
      obtain ⟨e, he⟩ : ∃ e, firstEnd t' = e := ⟨_, rfl⟩
      have hele : e ≤ n' := by have := firstEnd_le t'; have := hn2'.out; omega
      rw [he]
      obtain ⟨x, hx⟩ : ∃ x, t'.take e = x := ⟨_, rfl⟩
      have hxl : e = x.length := by rw [← hx, List.length_take]; have := hn2'.out; omega
      have hxr : Rd w3.drew S A' x := by rw [← hx]; exact (hr3.take e).kept (fun _ _ => rfl)
      obtain ⟨ab, hab⟩ : ∃ ab, addB most l.bytes l.long x = ab := ⟨_, rfl⟩
      have hadd := addLn_any sp n0 most pp (.int .i64 (most : Int)) vb any false l.long l.bytes x A' e e _ w3.drew hs3'.out.drew (hv3.kept (fun _ _ => rfl)) (by show n0 ≤ w3.heap.size; omega) hxr hxl hm (by have := hok'.out.1; omega) (by omega)
      unfold Added at hadd
      rw [hab] at hadd
      have e4 := hs3'.out.cell 4
      have e4d : w3.drew.cell? ⟨sp, 4, none⟩ = some (.int .i64 (most : Int)) := e4
      have hadd' := Lib.hid hadd
      have hE3' := Lib.hid hE3
      have hr3' := Lib.hid hr3
      have hv3' := Lib.hid hv3
      have he' := Lib.hid he
      have hx' := Lib.hid hx
      have hxl' := Lib.hid hxl
      have hab' := Lib.hid hab
      have hei : (e : Int) ≤ (c' : Int) := by omega
      have he0 : (0 : Int) ≤ (e : Int) := by omega
      clear hadd hE3 hr3 hv3 he hx hxl hxr hab
      clear e5 f5
      go_wp2_with fail
      go_region_held3 (fun W => W.cell? ⟨sp, 4, none⟩ = some (.int .i64 (most : Int)))
        (first
        | with_reducible exact e4d
        | with_reducible exact e44
        | fail)
        (first
        | (go_at_call 123; (with_reducible refine Calls.mono hadd'.out ?_); rintro e9 w4 ⟨⟨v4, rfl⟩, ⟨vb4, hs4, hv4, ho4⟩, hC4⟩; have e44 : w4.cell? ⟨sp, 4, none⟩ = some (.int .i64 (most : Int)) := hs4.cell 4; have hs4' := Lib.hid hs4; have hv4' := Lib.hid hv4; have ho4' := Lib.hid ho4; have hC4' := Lib.hid hC4; clear hs4 hv4 ho4 hC4)
        | fail)
      clear e4 e4d e44
      have hb4 : Below w.heap.size w w3 → True := fun _ => trivial
      have hC4 : Chg (fun k => k = sp ∨ vb.ownBlock = some k) w w4 := (hC3'.out.mono (fun k _ h => .inl h)).trans ((show Chg _ w3 w3.drew from ⟨rfl, rfl, rfl, Nat.le_refl _, fun _ _ _ => rfl⟩).trans hC4'.out)
      have hobn : ∀ k, vb.ownBlock = some k → k < w.heap.size := fun k hk => (hv'.out.own k hk).2.choose_spec.lt
      have kR4 : Has w4 w.heap.size 92 #[.string ⟨#[]⟩, .bool false] := by
        refine hC4'.out.has ?_ kR3'.out.drew
        rintro (h | h)
        · omega
        · have := hobn _ h; omega
      have kR4' := Lib.hid kR4
      have g0 := kR4.cell 0
      have g1 := kR4.cell 1
      have q0 := kR4.free 0
      have q1 := kR4.free 1
      have z4 : w.heap.size < w4.heap.size := by have := kR4.lt; omega
      have hCw4 := Lib.hid hC4
      have hobn' := Lib.hid hobn
      have habok := Lib.hid (show ab.1.length ≤ most ∧ (ab.2 = true → ab.1 = []) by rw [← hab'.out]; exact addB_ok)
      clear kR4 hC4 hobn hb4
      by_cases hen : e = n'
      · have hrun := hEnd'.out (by rw [he'.out]; exact hen.trans hn2'.out)
        have hxt : x = t' := by rw [← hx'.out, hen, hn2'.out, List.take_length]
        rw [← hxt, hab'.out] at hrun
        have hrun' := Lib.hid hrun
        clear hrun
        subst hen
        go_wp2_with fail
        have kR5 := Lib.hid ((kR4'.out.put 0 (.string ⟨#[]⟩)).put 1 (.bool false))
        have x0 := kR5.out.cell 0
        have x1 := kR5.out.cell 1
        refine bodyPost_ret (v := .tuple #[.agg #[.string ⟨#[]⟩, .bool false], .slice none 0 0, .bool false]) (by simp [results, Tryz.results102, go_sem, x0, x1]) rfl ?_
        refine ⟨vb4, ⟨ab.1, ab.2, false⟩, (hs4'.out.other (by omega) _).other (by omega) _, (hv4'.out.setCell kR4'.out (by decide) _).setCell (kR4'.out.put 0 _) (by decide) _, ?_, habok.out, (hCw4.out.setNew (Nat.le_refl _) _ _).setNew (Nat.le_refl _) _ _, .inl ⟨hrun'.out, rfl⟩⟩
        rcases ho4'.out with h | h | h
        · exact .inl h
        · exact .inr (.inl h)
        · exact .inr (.inr ⟨_, h, hsz3⟩)
      · have hel : e < t'.length := by have := hn2'.out; omega
        have hrun := hLine'.out e he'.out hel
        rw [hx'.out, hab'.out, byte13] at hrun
        have hr4 : Rd w4 S A' t' := hr2'.out.kept (fun k hk => hCw4.out.block k (hSS'.out _ hk).1 (fun h => h.elim (hSS'.out _ hk).2.1 (hSS'.out _ hk).2.2))
        obtain ⟨ad, had, hS, hcell⟩ := hr4 (by omega)
        subst had
        have hce := hcell e (byt t'[e]) (byts_at hel)
        unfold byt at hce
        generalize t'[e].toNat = cn at hce hrun
        have hE4 : Ends w4 := hE'.out.kept (hCw4.out.block _ hE'.out.lt (fun h => h.elim hgs (fun h => by have := (hv'.out.own _ h).1; omega)))
        have hce0 := (hE4.cells).1
        have e5 : w4.cell? ⟨sp, 5, none⟩ = some (.bool false) := hs4'.out.cell 5
        have f5 := hs4'.out.free 5
        have heni : (e : Int) < (n' : Int) := by omega
        have henb : ((e : Int) == (n' : Int)) = false := by rw [beq_eq_false_iff_ne]; omega
        have henn : (e == n') = false := by rw [beq_eq_false_iff_ne]; exact hen
        have hr4' := Lib.hid hr4
        have hrun' := Lib.hid hrun
        have hE4' := Lib.hid hE4
        have hel' := Lib.hid hel
        have hs5 : Has ((w4.setCell ⟨sp, 5, none⟩ (.bool ((cn : Int) == 13))).drew) sp 168 #[pp, .bool any, vb4, .bool ab.2, .int .i64 (most : Int), .bool ((cn : Int) == 13)] := (show Has (w4.setCell ⟨sp, 5, none⟩ (.bool ((cn : Int) == 13))) sp 168 #[pp, .bool any, vb4, .bool ab.2, .int .i64 (most : Int), .bool ((cn : Int) == 13)] by simpa using hs4'.out.put 5 (.bool ((cn : Int) == 13))).drew
        have hs5' := Lib.hid hs5
        have hC5 := Lib.hid (show Chg (fun k => k = sp ∨ vb.ownBlock = some k) w ((w4.setCell ⟨sp, 5, none⟩ (.bool ((cn : Int) == 13))).drew) from (hCw4.out.set (.inl rfl) 5 (.bool ((cn : Int) == 13))).drewN 1)
        have hv5 := Lib.hid (show Bs ((w4.setCell ⟨sp, 5, none⟩ (.bool ((cn : Int) == 13))).drew) n0 vb4 ab.1 from (hv4'.out.setCell hs4'.out (by decide) _).kept (fun _ _ => rfl))
        have kR5 := Lib.hid (show Has ((w4.setCell ⟨sp, 5, none⟩ (.bool ((cn : Int) == 13))).drew) w.heap.size 92 #[.string ⟨#[]⟩, .bool false] from kR4'.out.other (by omega) _)
        clear hr4 hrun hE4 hel hS hcell g0 g1 q0 q1 hs5
        obtain ⟨w5, hw5⟩ : ∃ w5, (w4.setCell ⟨sp, 5, none⟩ (.bool ((cn : Int) == 13))).drew = w5 := ⟨_, rfl⟩
        have hw5' := Lib.hid hw5
        rw [hw5] at hs5' hC5 hv5 kR5
        clear hw5
        go_wp2_with fail
        go_region
        go_wp2_with fail
        rw [hw5'.out]
        refine (line_any sp n0 pp (.int .i64 (most : Int)) vb4 any ((cn : Int) == 13) ab.2 ab.1 w5 hs5'.out hv5.out).mono ?_
        rintro e9 w6 ⟨rfl, hb6⟩
        have hs6 := hs5'.out.below hb6 hs5'.out.lt
        have kR6 := kR5.out.below hb6 kR5.out.lt
        have hC6 := Lib.hid (hC5.out.trans (Chg.of_below hb6))
        have hne1 : ¬ sp = w.heap.size := by omega
        have hne2 : ¬ w.heap.size = sp := by omega
        have hs7 := Lib.hid (show Has ((((w6.setCell ⟨w.heap.size, 0, none⟩ (.string ⟨ab.1.toArray⟩)).setCell ⟨w.heap.size, 1, none⟩ (.bool ab.2)).setCell ⟨sp, 2, none⟩ (.slice none 0 0)).setCell ⟨sp, 3, none⟩ (.bool false)) sp 168 #[pp, .bool any, .slice none 0 0, .bool false, .int .i64 (most : Int), .bool ((cn : Int) == 13)] by
          simpa using ((((hs6.other hne1 _).other hne1 _).put 2 (.slice none 0 0)).put 3 (.bool false)))
        have kR7 := Lib.hid (show Has ((((w6.setCell ⟨w.heap.size, 0, none⟩ (.string ⟨ab.1.toArray⟩)).setCell ⟨w.heap.size, 1, none⟩ (.bool ab.2)).setCell ⟨sp, 2, none⟩ (.slice none 0 0)).setCell ⟨sp, 3, none⟩ (.bool false)) w.heap.size 92 #[.string ⟨ab.1.toArray⟩, .bool ab.2] by
          simpa using ((((kR6.put 0 (.string ⟨ab.1.toArray⟩)).put 1 (.bool ab.2)).other hne2 _).other hne2 _))
        have hC7 := Lib.hid ((((hC6.out.setNew (Nat.le_refl _) 0 (.string ⟨ab.1.toArray⟩)).setNew (Nat.le_refl _) 1 (.bool ab.2)).set (k := sp) (.inl rfl) 2 (.slice none 0 0)).set (k := sp) (.inl rfl) 3 (.bool false))
        have e2 := hs6.cell 2
        have e3 := hs6.cell 3
        have f2 := hs6.free 2
        have f3 := hs6.free 3
        have g0 := kR6.cell 0
        have g1 := kR6.cell 1
        have q0 := kR6.free 0
        have q1 := kR6.free 1
        have hw5x := hw5'.out
        clear hb6 hs6 kR6 e5 f5 hce hce0 hw5x
        go_wp2_with fail
        obtain ⟨w7, hw7⟩ : ∃ w7, (((w6.setCell ⟨w.heap.size, 0, none⟩ (.string ⟨ab.1.toArray⟩)).setCell ⟨w.heap.size, 1, none⟩ (.bool ab.2)).setCell ⟨sp, 2, none⟩ (.slice none 0 0)).setCell ⟨sp, 3, none⟩ (.bool false) = w7 := ⟨_, rfl⟩
        rw [hw7] at hs7 kR7 hC7 ⊢
        clear hw7 e2 e3 f2 f3 g0 g1 q0 q1
        have g0 := kR7.out.cell 0
        have g1 := kR7.out.cell 1
        have q0 := kR7.out.free 0
        have q1 := kR7.out.free 1
        have h1i : (e : Int) + 1 ≤ (n' : Int) := by omega
        have h2i : (e : Int) + 1 ≤ (c' : Int) := by omega
        have kR8 := Lib.hid (show Has ((w7.setCell ⟨w.heap.size, 0, none⟩ (.string ⟨ab.1.toArray⟩)).setCell ⟨w.heap.size, 1, none⟩ (.bool ab.2)).drew w.heap.size 92 #[.string ⟨ab.1.toArray⟩, .bool ab.2] from (show Has ((w7.setCell ⟨w.heap.size, 0, none⟩ (.string ⟨ab.1.toArray⟩)).setCell ⟨w.heap.size, 1, none⟩ (.bool ab.2)) w.heap.size 92 #[.string ⟨ab.1.toArray⟩, .bool ab.2] by simpa using (kR7.out.put 0 (.string ⟨ab.1.toArray⟩)).put 1 (.bool ab.2)).drew)
        go_region
        obtain ⟨AR, hAR⟩ : ∃ AR : Option Addr, (if c' = e + 1 then some ad else some { block := ad.block, off := ad.off + (e + 1) }) = AR := ⟨_, rfl⟩
        rw [hAR]
        have hAR' := Lib.hid hAR
        clear hAR
        go_wp2_with fail
        have x0 := kR8.out.cell 0
        have x1 := kR8.out.cell 1
        refine bodyPost_ret (v := .tuple #[.agg #[.string ⟨ab.1.toArray⟩, .bool ab.2], .slice AR (n' - (e + 1)) (c' - (e + 1)), .bool true]) (by simp [results, Tryz.results102, go_sem, x0, x1]) rfl ?_
        have hC8 : Chg (fun k => k = sp ∨ vb.ownBlock = some k) w ((w7.setCell ⟨w.heap.size, 0, none⟩ (.string ⟨ab.1.toArray⟩)).setCell ⟨w.heap.size, 1, none⟩ (.bool ab.2)).drew := ((hC7.out.setNew (Nat.le_refl _) 0 (.string ⟨ab.1.toArray⟩)).setNew (Nat.le_refl _) 1 (.bool ab.2)).drewN 1
        have hs8 : Has ((w7.setCell ⟨w.heap.size, 0, none⟩ (.string ⟨ab.1.toArray⟩)).setCell ⟨w.heap.size, 1, none⟩ (.bool ab.2)).drew sp 168 #[pp, .bool any, .slice none 0 0, .bool false, .int .i64 (most : Int), .bool ((cn : Int) == 13)] := ((hs7.out.other hne1 _).other hne1 _).drew
        have hrd := (hr2'.out.kept (W' := ((w7.setCell ⟨w.heap.size, 0, none⟩ (.string ⟨ab.1.toArray⟩)).setCell ⟨w.heap.size, 1, none⟩ (.bool ab.2)).drew) (fun k hk => hC8.block k (hSS'.out _ hk).1 (fun h => h.elim (hSS'.out _ hk).2.1 (hSS'.out _ hk).2.2))).drop (e + 1) c' (by have := hn2'.out; omega)
        have hlen : n' - (e + 1) = (t'.drop (e + 1)).length := by rw [List.length_drop, hn2'.out]
        have hnt := hn'.out
        refine ⟨.slice none 0 0, ⟨[], false, (cn : Int) == 13⟩, hs8, bs_nil _ _, .inl rfl, ⟨Nat.zero_le _, fun _ => rfl⟩, hC8, .inr ⟨ab.1, ab.2, t'.drop (e + 1), _, n' - (e + 1), c' - (e + 1), hrun'.out, hlen, by omega, by omega, by omega, rfl, ?_⟩⟩
        rw [← hAR'.out]
        simpa [Addr.add] using hrd
end Go.Proofs.YtlcfpnegpihicaaGreatDoor

namespace Go.Proofs.YtlcfpnegpihicaaGreatDoor
open Go.RowKit Go.Shelf
attribute [local go_sem] Oper.semAt_some

/-! ## put -/
/-- append of a text's bytes, telling which row is the new one. -/
theorem run_append_text_at {w : World} {n0 : Nat} {v : Value} {l : List UInt8} (hv : Bs w n0 v l) (t : ByteArray) (hs : l.length + t.size ≤ 140737488355328) (hn : n0 ≤ w.heap.size) (ty : TypeId) :
    ∃ v' w', (Builtin.append_ #[22, 9] ty #[v, .string t]).run Tryz.prog w = .ok v' w' ∧ Bs w' n0 v' (l ++ t.data.toList) ∧ w.grownBy w' v.ownBlock ∧ (v'.ownBlock = v.ownBlock ∨ ∃ k, v'.ownBlock = some k ∧ w.heap.size ≤ k) := by
  obtain ⟨i, hi, hz, hz1, hz2⟩ := info_parts infoB
  obtain ⟨v', w', hrun, h2, h3, h4⟩ := Lib.run_append_own_string (P := Tryz.prog) w n0 22 9 ty 5 i Tryz.underlying22 Tryz.underlying9 hi hz hz1 hz2 v l.length (byts l) hv t (by simp only [maxLen]; omega) hs hn
  refine ⟨v', w', hrun, ?_, h3, ?_⟩
  · unfold Bs
    have e : t.size = t.data.toList.length := by simp only [Array.length_toList]; rfl
    rw [List.length_append, byts_append, ← e]
    exact h2
  · rcases hv.2 with ⟨rfl, h0⟩ | ⟨g, cap, cur, rfl, hb, hh, hnc, hcm, hcs, htake⟩
    · obtain ⟨v2, w2, hrun2, k2, _, _⟩ := Lib.run_append_own_string (P := Tryz.prog) w w.heap.size 22 9 ty 5 i Tryz.underlying22 Tryz.underlying9 hi hz hz1 hz2 (.slice none 0 0) l.length (byts l) ⟨hv.1, .inl ⟨rfl, h0⟩⟩ t (by simp only [maxLen]; omega) hs (Nat.le_refl _)
      rw [hrun] at hrun2
      injection hrun2 with e1 e2
      rw [← e1] at k2
      rcases k2.2 with ⟨rfl, _⟩ | ⟨g, cap, cur, rfl, hb, _⟩
      · exact .inl rfl
      · exact .inr ⟨g, rfl, hb⟩
    · by_cases hroom : l.length + t.size ≤ cap
      · have hr := Lib.run_append_room_string (P := Tryz.prog) w 22 9 ty 5 i Tryz.underlying22 Tryz.underlying9 hi hz1 g l.length cap cur hh t hroom (by omega)
        rw [hrun] at hr
        injection hr with e1 e2
        exact .inl (by rw [e1]; rfl)
      · have holds : ∀ j u, (byts l)[j]? = some u → w.cell? ((⟨g, 0, none⟩ : Addr).add j) = some u := World.ownsRow.cells hv (g := g) rfl
        have hr := Lib.run_append_grow_string (P := Tryz.prog) w 22 9 ty 5 i (.int .u8 0) Tryz.underlying22 Tryz.underlying9 hi hz ⟨g, 0, none⟩ l.length cap (byts l) (by rw [hz1, byts_length]; omega) holds t (by omega) (by omega) (by rw [hz2]; exact growslice_fits (by omega) (by omega))
        rw [hrun] at hr
        injection hr with e1 e2
        exact .inr ⟨w.heap.size, by rw [e1]; rfl, Nat.le_refl _⟩
section
variable {w : World} {ops : Array Oper} {rest : List Oper} {o : Oper} {a : Act} {Q : Exit → Act → World → Prop} {n0 : Nat} {v : Value} {l : List UInt8}
/-- The same at a step of a region that draws its order. -/
theorem step_append_text_at {K : Act → World → Prop} {E : Prop} (hgd : o.guard = none) (s x : Operand) (ho : o.op = .call { callee := .builtin .append, args := #[s, x], argTypes := #[22, 9] }) (hsv : a.eval s = v) (hv : Bs w n0 v l)
    (t : ByteArray) (hxv : a.eval x = .string t) (hs : l.length + t.size ≤ 140737488355328) (hn : n0 ≤ w.heap.size)
    (h : ∀ v' w', Bs w' n0 v' (l ++ t.data.toList) → w.grownBy w' v.ownBlock → (v'.ownBlock = v.ownBlock ∨ ∃ k, v'.ownBlock = some k ∧ w.heap.size ≤ k) → K (a.put o.dst v') w') : if Region.wanted o (yielded ops a.tmps) = true then Oper.wp Tryz.prog o a w K Q else E := by
  rw [if_pos (by unfold Region.wanted; rw [hgd])]
  obtain ⟨v', w', hrun, h2, h3, h5⟩ := run_append_text_at hv t hs hn o.type
  unfold Oper.wp execOp
  simp only [ho, resolve, invoke, builtin, Sem.run_bind, Sem.run_pure, Result.andThen_ok, List.map_toArray, List.map_cons, List.map_nil, hsv, hxv, hrun]
  exact h v' w' h2 h3 h5
end

/-! ## The five cells of what is said, written -/
abbrev Z5 (W : World) (k : Nat) (a b c d e : Value) : World := ((((W.setCell ⟨k, 0, none⟩ a).setCell ⟨k, 1, none⟩ b).setCell ⟨k, 2, none⟩ c).setCell ⟨k, 3, none⟩ d).setCell ⟨k, 4, none⟩ e
theorem Z5_has {W : World} {k : Nat} {t : TypeId} {a0 b0 c0 d0 e0 : Value} (h : Has W k t #[a0, b0, c0, d0, e0]) (a b c d e : Value) : Has (Z5 W k a b c d e) k t #[a, b, c, d, e] := by
  simpa using ((((h.put 0 a).put 1 b).put 2 c).put 3 d).put 4 e
theorem Z5_other {W : World} {j k : Nat} {t : TypeId} {cs : Array Value} (h : Has W j t cs) (hn : j ≠ k) (a b c d e : Value) : Has (Z5 W k a b c d e) j t cs := ((((h.other hn a).other hn b).other hn c).other hn d).other hn e
theorem Z5_bs {W : World} {nb k : Nat} {v : Value} {l : List UInt8} {t : TypeId} {a0 b0 c0 d0 e0 : Value} (h : Bs W nb v l) (hk : Has W k t #[a0, b0, c0, d0, e0]) (ht : t ≠ 5) (a b c d e : Value) : Bs (Z5 W k a b c d e) nb v l := by
  have h1 := h.setCell (i := 0) hk ht a
  have k1 := hk.put 0 a
  have h2 := h1.setCell (i := 1) k1 ht b
  have k2 := k1.put 1 b
  have h3 := h2.setCell (i := 2) k2 ht c
  have k3 := k2.put 2 c
  have h4 := h3.setCell (i := 3) k3 ht d
  have k4 := k3.put 3 d
  exact h4.setCell (i := 4) k4 ht e
theorem Z5_chg {S : Nat → Prop} {w W : World} (h : Chg S w W) {k : Nat} (hk : w.heap.size ≤ k) (a b c d e : Value) : Chg S w (Z5 W k a b c d e) := ((((h.setNew hk 0 a).setNew hk 1 b).setNew hk 2 c).setNew hk 3 d).setNew hk 4 e
end Go.Proofs.YtlcfpnegpihicaaGreatDoor

namespace Go.Proofs.YtlcfpnegpihicaaGreatDoor
open Go.RowKit Go.Shelf
attribute [local go_sem] Oper.semAt_some

/-! ## put -/
set_option maxRecDepth 100000 in
theorem putPs_long (nb p sp l m : Nat) (s : PrS) (f : FdT) (dv : Value) (w : World) (hp : Has w p 71 (prC sp dv s l m)) (hd : Bs w nb dv s.data) (hnb : nb ≤ w.heap.size) (hdl : s.data.length ≤ 1000000) (hm : m ≤ 65536) (hl : s.long = true ∨ m + 1 < s.data.length) :
    Calls Tryz.prog 77 #[.pointer (some ⟨p, 0, none⟩), .agg (fdC f)] w (DeedR nb p sp l m dv.ownBlock { s with long := true } none w) := by
  obtain ⟨kd, dt, lg, lt⟩ := s
  simp only at hd hdl hl
  have hpl := hp.lt
  have hp' := Lib.hid hp
  have hd' := Lib.hid hd
  have hb2 : Below w.heap.size w ((w.alloc (.cells (fdC f) 104)).alloc (.cells (sdC sdN) 40)) := ((Below.refl _ _).alloc (Nat.le_refl _) _).alloc (by simp) _
  have hp2 := hp.below hb2 hpl
  have f3 := hp2.free 3
  have c3 := hp2.cell 3
  have c2 := hp2.cell 2
  have c6 := hp2.cell 6
  obtain ⟨A, c, hdv, _⟩ := hd.shape
  obtain ⟨ob, hob⟩ : ∃ ob, dv.ownBlock = ob := ⟨_, rfl⟩
  have hob' := Lib.hid hob
  rw [hob]
  obtain ⟨dl, hdle⟩ : ∃ dl, dt.length = dl := ⟨_, rfl⟩
  have hdv' := Lib.hid hdv
  rw [hdle] at hdv hdl hl
  unfold prC at c2 c3 c6
  simp only [hdv] at c2 c3 c6
  have hml : (m : Int) ≤ 65536 := by omega
  clear hp hd hb2 hp2 hob hdv hdle
  unfold fdC sdC sdN at f3 c3 c2 c6
  unfold fdC
  cases lg with
  | true =>
    go_enter Tryz.func77, Tryz.ntmps77
    go_wp2
    have kS := Has.new (w.alloc (.cells #[.int .i64 f.1, .string ⟨f.2.1.toArray⟩, .string ⟨f.2.2.toArray⟩] 104)) 40 #[.int .i64 0, .string ⟨#[]⟩, .string ⟨#[]⟩, .string ⟨#[]⟩, .int .u64 0]
    rw [World.size_alloc] at kS
    have z0 := kS.cell 0
    have z1 := kS.cell 1
    have z2 := kS.cell 2
    have z3 := kS.cell 3
    have z4 := kS.cell 4
    have hBB : Below w.heap.size w ((w.alloc (.cells #[.int .i64 f.1, .string ⟨f.2.1.toArray⟩, .string ⟨f.2.2.toArray⟩] 104)).alloc (.cells #[.int .i64 0, .string ⟨#[]⟩, .string ⟨#[]⟩, .string ⟨#[]⟩, .int .u64 0] 40)) := ((Below.refl _ _).alloc (Nat.le_refl _) _).alloc (by simp) _
    refine bodyPost_ret (v := .agg #[.int .i64 0, .string ⟨#[]⟩, .string ⟨#[]⟩, .string ⟨#[]⟩, .int .u64 0]) (by simp [results, Tryz.results77, go_sem, z0, z1, z2, z3, z4]) rfl ⟨rfl, ⟨dv, hp'.out.below hBB hpl, hd'.out.below hBB, .inr (.inl hob'.out)⟩, Chg.of_below hBB⟩
  | false =>
    have hli : (m : Int) + 1 < (dl : Int) := by simp at hl; omega
    go_enter Tryz.func77, Tryz.ntmps77
    go_upto_region 3 with (fail)
    go_quiet (fail)
    go_wp2
    clear c2 c3 c6 f3
    have kS := Has.new (w.alloc (.cells #[.int .i64 f.1, .string ⟨f.2.1.toArray⟩, .string ⟨f.2.2.toArray⟩] 104)) 40 #[.int .i64 0, .string ⟨#[]⟩, .string ⟨#[]⟩, .string ⟨#[]⟩, .int .u64 0]
    rw [World.size_alloc] at kS
    have hB := below_draws (Below.refl w.heap.size w |>.alloc (Nat.le_refl _) (.cells #[.int .i64 f.1, .string ⟨f.2.1.toArray⟩, .string ⟨f.2.2.toArray⟩] 104) |>.alloc (by simp) (.cells #[.int .i64 0, .string ⟨#[]⟩, .string ⟨#[]⟩, .string ⟨#[]⟩, .int .u64 0] 40)) nq
    obtain ⟨W, hW⟩ : ∃ W, ((w.alloc (.cells #[.int .i64 f.1, .string ⟨f.2.1.toArray⟩, .string ⟨f.2.2.toArray⟩] 104)).alloc (.cells #[.int .i64 0, .string ⟨#[]⟩, .string ⟨#[]⟩, .string ⟨#[]⟩, .int .u64 0] 40)).drewN nq = W := ⟨_, rfl⟩
    have kS2 := kS.drewN nq
    rw [hW] at hB kS2 ⊢
    have hpW := hp'.out.below hB hpl
    have hdW := hd'.out.below hB
    have hpne : w.heap.size + 1 ≠ p := by omega
    have kS3 := kS2.other hpne (i := 3) (.bool true)
    have kE := Z5_has kS3 (.int .i64 0) (.string ⟨#[]⟩) (.string ⟨#[]⟩) (.string ⟨#[]⟩) (.int .u64 0)
    have z0 := kE.cell 0
    have z1 := kE.cell 1
    have z2 := kE.cell 2
    have z3 := kE.cell 3
    have z4 := kE.cell 4
    refine bodyPost_ret (v := .agg #[.int .i64 0, .string ⟨#[]⟩, .string ⟨#[]⟩, .string ⟨#[]⟩, .int .u64 0]) (by simp [results, Tryz.results77, go_sem, z0, z1, z2, z3, z4]) rfl ⟨rfl, ⟨dv, Z5_other (hpW.put 3 (.bool true)) hpne.symm _ _ _ _ _, Z5_bs (hdW.setCell hpW (by decide) _) kS3 (by decide) _ _ _ _ _, .inr (.inl hob'.out)⟩, Z5_chg ((Chg.of_below hB).set (.inl rfl) 3 _) (by omega) _ _ _ _ _⟩
set_option maxRecDepth 100000 in
theorem putPs_more (nb p sp l m : Nat) (s : PrS) (f : FdT) (dv : Value) (w : World) (hp : Has w p 71 (prC sp dv s l m)) (hd : Bs w nb dv s.data) (hnb : nb ≤ w.heap.size) (hdl : s.data.length ≤ 1000000) (hvl : f.2.2.length ≤ 1000000) (hm : m ≤ 65536) (hl : s.long = false) (hl2 : s.data.length ≤ m + 1) :
    Calls Tryz.prog 77 #[.pointer (some ⟨p, 0, none⟩), .agg (fdC f)] w (DeedR nb p sp l m dv.ownBlock { s with data := s.data ++ f.2.2 ++ [10] } none w) := by
  obtain ⟨kd, dt, lg, lt⟩ := s
  simp only at hd hdl hl hl2
  subst hl
  have hpl := hp.lt
  have hp' := Lib.hid hp
  have hd' := Lib.hid hd
  have hb2 : Below w.heap.size w ((w.alloc (.cells (fdC f) 104)).alloc (.cells (sdC sdN) 40)) := ((Below.refl _ _).alloc (Nat.le_refl _) _).alloc (by simp) _
  have hp2 := hp.below hb2 hpl
  have f3 := hp2.free 3
  have f2 := hp2.free 2
  have c3 := hp2.cell 3
  have c2 := hp2.cell 2
  have c6 := hp2.cell 6
  have kF := (Has.new w 104 (fdC f)).alloc (.cells (sdC sdN) 40)
  have k2 := kF.cell 2
  obtain ⟨A, c, hdv, _⟩ := hd.shape
  obtain ⟨ob, hob⟩ : ∃ ob, dv.ownBlock = ob := ⟨_, rfl⟩
  have hob' := Lib.hid hob
  rw [hob]
  have hdl' := Lib.hid hdl
  have hvl' := Lib.hid hvl
  obtain ⟨dl, hdle⟩ : ∃ dl, dt.length = dl := ⟨_, rfl⟩
  have hdv' := Lib.hid hdv
  rw [hdle] at hdv hdl hl2
  unfold prC at c2 c3 c6
  simp only [hdv] at c2 c3 c6
  have hml : (m : Int) ≤ 65536 := by omega
  clear hp hd hb2 hp2 hob hdv hdle hvl kF
  unfold fdC sdC sdN at f2 f3 c3 c2 c6 k2
  unfold fdC
  have hli : ¬ (m : Int) + 1 < (dl : Int) := by omega
  go_enter Tryz.func77, Tryz.ntmps77
  go_upto_region 3 with (fail)
  go_quiet (fail)
  go_upto_region 1 with (fail)
  clear c2 c3 c6 f2 f3 k2
  have kS := Has.new (w.alloc (.cells #[.int .i64 f.1, .string ⟨f.2.1.toArray⟩, .string ⟨f.2.2.toArray⟩] 104)) 40 #[.int .i64 0, .string ⟨#[]⟩, .string ⟨#[]⟩, .string ⟨#[]⟩, .int .u64 0]
  rw [World.size_alloc] at kS
  have kF := (Has.new w 104 #[.int .i64 f.1, .string ⟨f.2.1.toArray⟩, .string ⟨f.2.2.toArray⟩]).alloc (.cells #[.int .i64 0, .string ⟨#[]⟩, .string ⟨#[]⟩, .string ⟨#[]⟩, .int .u64 0] 40)
  have hB := below_draws (Below.refl w.heap.size w |>.alloc (Nat.le_refl _) (.cells #[.int .i64 f.1, .string ⟨f.2.1.toArray⟩, .string ⟨f.2.2.toArray⟩] 104) |>.alloc (by simp) (.cells #[.int .i64 0, .string ⟨#[]⟩, .string ⟨#[]⟩, .string ⟨#[]⟩, .int .u64 0] 40)) nq
  obtain ⟨W, hW⟩ : ∃ W, ((w.alloc (.cells #[.int .i64 f.1, .string ⟨f.2.1.toArray⟩, .string ⟨f.2.2.toArray⟩] 104)).alloc (.cells #[.int .i64 0, .string ⟨#[]⟩, .string ⟨#[]⟩, .string ⟨#[]⟩, .int .u64 0] 40)).drewN nq = W := ⟨_, rfl⟩
  have kS2 := kS.drewN nq
  have kF2 := kF.drewN nq
  have hWs : W.heap.size = w.heap.size + 1 + 1 := by rw [← hW]; simp
  rw [hW] at hB kS2 kF2 ⊢
  have hpW := hp'.out.below hB hpl
  have hdW := Lib.hid (hd'.out.below hB)
  have hpW' := Lib.hid hpW
  have kS2' := Lib.hid kS2
  have hB' := Lib.hid hB
  have c2 := hpW.cell 2
  have f2 := hpW.free 2
  have k2 := kF2.cell 2
  unfold prC at c2
  simp only [hdv'.out] at c2
  have kF2' := Lib.hid kF2
  clear kS kF kS2 kF2 hW hB hpW
  have hs1 : Hid (dt.length + (⟨f.2.2.toArray⟩ : ByteArray).size ≤ 140737488355328) := Lib.hid (by show dt.length + f.2.2.toArray.size ≤ _; have := hdl'.out; have := hvl'.out; simp; omega)
  have hs2 : Hid ((dt ++ f.2.2).length + (⟨#[10]⟩ : ByteArray).size ≤ 140737488355328) := Lib.hid (by show (dt ++ f.2.2).length + (1 : Nat) ≤ _; have := hdl'.out; have := hvl'.out; simp; omega)
  have hob2 : Hid ((Value.slice A dt.length c).ownBlock = ob) := Lib.hid (by rw [← hdv'.out]; exact hob'.out)
  have hdW2 : Hid (Bs W nb (.slice A dt.length c) dt) := Lib.hid (by rw [← hdv'.out]; exact hdW.out)
  go_region_law
    (first
      | (refine step_append_text_at rfl (.tmp 10) (.tmp 12) rfl (by rfl) (World.ownsRow.drew hdW2.out) ⟨f.2.2.toArray⟩ (by rfl) hs1.out (by show nb ≤ W.heap.size; omega) ?_
         intro v5 w5 hv5 hg5 ho5
         have hp5 : Has w5 p _ _ := (hg5.block p (by show p < W.heap.size; omega) (fun e => by obtain ⟨_, cs, hh⟩ := hdW2.out.own p e.symm; exact Has.apart hpW'.out hh (by decide) rfl)).trans hpW'.out
         have hv5' := Lib.hid hv5
         have hg5' := Lib.hid hg5
         have ho5' := Lib.hid ho5
         have hp5' := Lib.hid hp5
         have kF5 : Has w5 w.heap.size _ _ := (hg5.block w.heap.size (by show w.heap.size < W.heap.size; omega) (fun e => by obtain ⟨_, cs, hh⟩ := hdW2.out.own w.heap.size e.symm; exact Has.apart kF2'.out hh (by decide) rfl)).trans kF2'.out
         have kF5' := Lib.hid kF5
         have e5 : w5.cell? ⟨p, 2, none⟩ = some (.slice A dt.length c) := (by have h := hp5.cell 2; unfold prC at h; simp only [hdv'.out] at h; exact h)
         have q5 := hp5.free 2
         have g5 : w5.cell? ⟨w.heap.size, 2, none⟩ = some (.string ⟨f.2.2.toArray⟩) := kF5.cell 2
         have kS5 : Has w5 (w.heap.size + 1) _ _ := (hg5.block (w.heap.size + 1) (by show w.heap.size + 1 < W.heap.size; omega) (fun e => by obtain ⟨_, cs, hh⟩ := hdW2.out.own (w.heap.size + 1) e.symm; exact Has.apart kS2'.out hh (by decide) rfl)).trans kS2'.out
         have kS5' := Lib.hid kS5
         clear hv5 hg5 ho5 hp5 kF5 kS5)
      | (refine step_append_text_at rfl (.tmp 13) (.const (.string ⟨#[10]⟩)) rfl (by rfl) hv5'.out ⟨#[10]⟩ (by rfl) hs2.out (by have h1 := hg5'.out.size; have h2 : W.drew.heap.size = W.heap.size := rfl; omega) ?_
         intro v6 w6 hv6 hg6 ho6
         have hp6 : Has w6 p _ _ := (hg6.block p hp5'.out.lt (fun e => by obtain ⟨_, cs, hh⟩ := hv5'.out.own p e.symm; exact Has.apart hp5'.out hh (by decide) rfl)).trans hp5'.out
         have hv6' := Lib.hid hv6
         have hg6' := Lib.hid hg6
         have ho6' := Lib.hid ho6
         have hp6' := Lib.hid hp6
         have kF6 : Has w6 w.heap.size _ _ := (hg6.block w.heap.size kF5'.out.lt (fun e => by obtain ⟨_, cs, hh⟩ := hv5'.out.own w.heap.size e.symm; exact Has.apart kF5'.out hh (by decide) rfl)).trans kF5'.out
         have e6 : w6.cell? ⟨p, 2, none⟩ = some (.slice A dt.length c) := (by have h := hp6.cell 2; unfold prC at h; simp only [hdv'.out] at h; exact h)
         have q6 := hp6.free 2
         have g6 : w6.cell? ⟨w.heap.size, 2, none⟩ = some (.string ⟨f.2.2.toArray⟩) := kF6.cell 2
         obtain ⟨A6, c6, rfl, _⟩ := hv6.shape
         have kS6 : Has w6 (w.heap.size + 1) _ _ := (hg6.block (w.heap.size + 1) kS5'.out.lt (fun e => by obtain ⟨_, cs, hh⟩ := hv5'.out.own (w.heap.size + 1) e.symm; exact Has.apart kS5'.out hh (by decide) rfl)).trans kS5'.out
         have kS6' := Lib.hid kS6
         clear hv6 hg6 ho6 hp6 kF6 kS6))
  all_goals (
    clear e5 q5 g5 e6 q6 g6
    have hv7 : Hid (Bs w6 nb (.slice A6 (dt.length + (f.2.2.length + 1)) c6) (dt ++ f.2.2 ++ [10])) := Lib.hid (by
      have h := hv6'.out
      have hl : (dt ++ (⟨f.2.2.toArray⟩ : ByteArray).data.toList ++ (⟨#[10]⟩ : ByteArray).data.toList) = dt ++ f.2.2 ++ [10] := by simp
      rw [hl] at h
      have hn : (dt ++ f.2.2 ++ [10]).length = dt.length + (f.2.2.length + 1) := by simp [Nat.add_assoc]
      rw [hn] at h
      exact h)
    have hC6 : Hid (Chg (fun k => k = p ∨ ob = some k) w w6) := Lib.hid (by
      have h5 := hg5'.out
      have h6 := hg6'.out
      have hBd := hB'.out
      refine ⟨h6.os.trans (h5.os.trans hBd.os), h6.tape.trans (h5.tape.trans hBd.tape), h6.output.trans (h5.output.trans hBd.output), Nat.le_trans (Nat.le_trans (by show w.heap.size ≤ W.heap.size; omega) h5.size) h6.size, fun k hk hn => ?_⟩
      have k5 : v5.ownBlock ≠ some k := by
        rcases ho5'.out with h | ⟨g, h, hg⟩
        · rw [h, hob2.out]
          exact fun e => hn (.inr e)
        · rw [h]
          intro e
          have e := Option.some.inj e
          have hg : W.heap.size ≤ g := hg
          omega
      have k5' : some k ≠ v5.ownBlock := fun e => k5 e.symm
      refine (h6.block k (Nat.lt_of_lt_of_le (Nat.lt_of_lt_of_le hk (by show w.heap.size ≤ W.heap.size; omega)) h5.size) k5').trans ((h5.block k (by show k < W.heap.size; omega) (fun e => hn (.inr (by rw [← hob2.out]; exact e.symm)))).trans (hBd.block k hk)))
    have hob7 : Hid ((Value.slice A6 (dt.length + (f.2.2.length + 1)) c6).ownBlock = none ∨ (Value.slice A6 (dt.length + (f.2.2.length + 1)) c6).ownBlock = ob ∨ ∃ k, (Value.slice A6 (dt.length + (f.2.2.length + 1)) c6).ownBlock = some k ∧ w.heap.size ≤ k) := Lib.hid (by
      have e : ∀ n n', (Value.slice A6 n c6).ownBlock = (Value.slice A6 n' c6).ownBlock := fun _ _ => by unfold Value.ownBlock; rcases A6 with _ | ⟨b, o, x⟩ <;> (try cases o) <;> (try cases x) <;> rfl
      rcases ho6'.out with h | ⟨k, h, hk⟩
      · rcases ho5'.out with h' | ⟨k, h', hk⟩
        · exact .inr (.inl (((e _ _).trans h).trans (h'.trans hob2.out)))
        · exact .inr (.inr ⟨k, ((e _ _).trans h).trans h', by have hk : W.heap.size ≤ k := hk; omega⟩)
      · exact .inr (.inr ⟨k, (e _ _).trans h, by have h5 := hg5'.out.size; have h5 : W.heap.size ≤ _ := h5; omega⟩))
    have y0 := kS6'.out.cell 0
    have y1 := kS6'.out.cell 1
    have y2 := kS6'.out.cell 2
    have y3 := kS6'.out.cell 3
    have y4 := kS6'.out.cell 4
    have z0 := kS6'.out.free 0
    have z1 := kS6'.out.free 1
    have z2 := kS6'.out.free 2
    have z3 := kS6'.out.free 3
    have z4 := kS6'.out.free 4
    go_wp2
    clear y0 y1 y2 y3 y4 z0 z1 z2 z3 z4
    have hpne : w.heap.size + 1 ≠ p := by omega
    have kS7 := kS6'.out.other hpne (i := 2) (.slice A6 (dt.length + (f.2.2.length + 1)) c6)
    have kE := Z5_has kS7 (.int .i64 0) (.string ⟨#[]⟩) (.string ⟨#[]⟩) (.string ⟨#[]⟩) (.int .u64 0)
    have z0 := kE.cell 0
    have z1 := kE.cell 1
    have z2 := kE.cell 2
    have z3 := kE.cell 3
    have z4 := kE.cell 4
    refine bodyPost_ret (v := .agg #[.int .i64 0, .string ⟨#[]⟩, .string ⟨#[]⟩, .string ⟨#[]⟩, .int .u64 0]) (by simp [results, Tryz.results77, go_sem, z0, z1, z2, z3, z4]) rfl ⟨rfl, ⟨_, Z5_other (hp6'.out.put 2 (.slice A6 (dt.length + (f.2.2.length + 1)) c6)) hpne.symm _ _ _ _ _, Z5_bs (by have h := hv7.out.setCell (i := 2) hp6'.out (by decide) (.slice A6 (dt.length + (f.2.2.length + 1)) c6); simpa [List.append_assoc] using h) kS7 (by decide) _ _ _ _ _, hob7.out⟩, Z5_chg (hC6.out.set (.inl rfl) 2 _) (by omega) _ _ _ _ _⟩)
theorem putPs_any (nb p sp l m : Nat) (s : PrS) (f : FdT) (dv : Value) (w : World) (hp : Has w p 71 (prC sp dv s l m)) (hd : Bs w nb dv s.data) (hnb : nb ≤ w.heap.size) (hdl : s.data.length ≤ 1000000) (hvl : f.2.2.length ≤ 1000000) (hm : m ≤ 65536) :
    Calls Tryz.prog 77 #[.pointer (some ⟨p, 0, none⟩), .agg (fdC f)] w (DeedR nb p sp l m dv.ownBlock (putD m s f.2.2) none w) := by
  by_cases hl : s.long = true
  · have h := putPs_long nb p sp l m s f dv w hp hd hnb hdl hm (.inl hl)
    have e : putD m s f.2.2 = { s with long := true } := by
      unfold putD
      rw [if_pos hl]
      obtain ⟨_, _, lg, _⟩ := s
      simp only at hl
      rw [hl]
    rw [e]
    exact h
  · by_cases h2 : m + 1 < s.data.length
    · have h := putPs_long nb p sp l m s f dv w hp hd hnb hdl hm (.inr h2)
      rw [show putD m s f.2.2 = { s with long := true } by unfold putD; rw [if_neg hl, if_pos h2]]
      exact h
    · have h := putPs_more nb p sp l m s f dv w hp hd hnb hdl hvl hm (by simpa using hl) (by omega)
      rw [show putD m s f.2.2 = { s with data := s.data ++ f.2.2 ++ [10] } by unfold putD; rw [if_neg hl, if_neg h2]]
      exact h
end Go.Proofs.YtlcfpnegpihicaaGreatDoor
