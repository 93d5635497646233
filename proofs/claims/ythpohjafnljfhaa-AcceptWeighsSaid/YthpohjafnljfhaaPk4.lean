import Derived.Test.YthpohjafnljfhaaPk28
import Derived.Test.YthpohjafnljfhaaPk36
import Derived.Test.YthpohjafnljfhaaPk1
import Derived.OwnWalkIn
import Derived.TacticsInMore
import Derived.LoopNIn
import Derived.LoopIn
namespace Go.Proofs.Ythpohjafnljfhaa
open Go.RowKit
attribute [local go_sem] Oper.semAt_some class_at0 class_at1 class_at2

/-! ## Token's parts, whole -/
/-- What a part is, and where the next one begins. -/
def PartA (k : Nat) (c : UInt8) (t : List UInt8) (q : Bool) (w : World) (e : Ending) (w' : World) : Prop :=
  Only k w w' ∧ e = .returned (.tuple #[.string ⟨(aheadL c t q).toArray⟩, .bool (findL c t q).isSome]) ∧ ∀ r, findL c t q = some r → RdAt w' k r false ∧ r.length < t.length
set_option maxRecDepth 100000 in
set_option maxHeartbeats 2000000 in
theorem part_all (k : Nat) (c : UInt8) (hc34 : c ≠ 34) (t : List UInt8) (q : Bool) (w : World) (hk : RdAt w k t q) (ht : t.length ≤ 1000000) : Calls Try.prog 55 #[.pointer (some ⟨k, 0, none⟩), .int .u8 (c.toNat : Int)] w (PartA k c t q w) := by
  unfold PartA
  obtain ⟨c0, -, -, -⟩ := hk.facts
  have hk' := Lib.hid hk
  clear hk
  go_enter Try.func55, Try.ntmps55
  go_wp2
  go_loopw [] (fun W => ∃ u p, RdAt W k u p ∧ u.length ≤ t.length ∧ findL c t q = findL c u p ∧ Only k w W) (fun W => leftN W k)
  case atStart => exact ⟨t, q, hk'.out, Nat.le_refl _, rfl, Only.refl _ _⟩
  case round =>
    obtain ⟨u, p, hrd, hul, hf, ho⟩ := hrel
    clear c0
    have ho' := Lib.hid ho
    have hleft := Lib.hid hrd.left
    cases u with
    | nil =>
      have hst := Lib.hid (step_none k p wr hrd)
      have hf' := Lib.hid (show findL c t q = none by rw [hf]; rfl)
      have hrd' := Lib.hid hrd
      clear hf hrd ho
      go_wp2_with (go_at_call 62; (with_reducible refine Calls.mono hst.out ?_); rintro e w2 ⟨rfl, hw2⟩; obtain rfl := hw2.symm)
      go_ret2
      refine ⟨ho'.out, ?_, fun r h => ?_⟩
      · unfold aheadL; rw [hf'.out]; rfl
      · rw [hf'.out] at h; cases h
    | cons b r =>
      have hst := Lib.hid (step_any k b r p wr hrd)
      have hbc := beq8 b c
      have hsl := stepS_len b r p
      have hul2 : r.length + 1 ≤ t.length := by simpa using hul
      unfold StepR at hst
      by_cases hc : b = c ∧ p = false
      · have hf' := Lib.hid (show findL c t q = some r by rw [hf]; exact findL_yes r hc)
        obtain ⟨hc1, rfl⟩ := hc
        rw [decide_eq_true hc1] at hbc
        have hs1 : (stepS b r false).1 = r := by unfold stepS; split <;> simp
        rw [hs1] at hst
        rw [show (stepS b r false).2 = false by unfold stepS; rw [if_neg (fun h => hc34 (hc1.symm.trans h)), if_neg (by simp)]] at hst
        have hx := cut_str t 0 (t.length - r.length - 1)
        rw [List.drop_zero] at hx
        have hx' := Lib.hid hx
        clear hf hrd ho hsl hs1 hc1 hx
        generalize (b.toNat : Int) = x at *
        go_wp2_with (go_at_call 62; (with_reducible refine Calls.mono hst.out ?_); rintro e w2 ⟨rfl, hrd2, ho2⟩; have hrd2' := Lib.hid hrd2; have ho2' := Lib.hid (ho'.out.trans ho2); have d0 := hrd2.facts.1; clear hrd2 ho2)
        go_ret2
        refine ⟨ho2'.out, ?_, fun r' h => ?_⟩
        rotate_left
        · rw [hf'.out] at h
          obtain rfl := Option.some.inj h
          exact ⟨hrd2'.out, by omega⟩
        unfold aheadL
        rw [hf'.out]
        simp only
        rw [← hx'.out]
        rfl
      · have hf' := Lib.hid (show findL c t q = findL c (stepS b r p).1 (stepS b r p).2 by rw [hf]; exact findL_no r hc)
        have hor : (b ≠ c) ∨ (b = c ∧ p = true) := by
          by_cases h : b = c
          · exact .inr ⟨h, by cases p with
              | true => rfl
              | false => exact absurd ⟨h, rfl⟩ hc⟩
          · exact .inl h
        have hl2 := Lib.hid (show (stepS b r p).1.length < (b :: r).length by simp; omega)
        clear hf hrd ho hc
        generalize (stepS b r p).1 = u2 at *
        generalize (stepS b r p).2 = q2 at *
        generalize b :: r = u at *
        rcases hor with h | ⟨h, rfl⟩
        · rw [decide_eq_false h] at hbc
          clear h
          generalize (b.toNat : Int) = x at *
          go_wp2_with (go_at_call 62; (with_reducible refine Calls.mono hst.out ?_); rintro e w2 ⟨rfl, hrd2, ho2⟩; have hrd2' := Lib.hid hrd2; have ho2' := Lib.hid (ho'.out.trans ho2); have d0 := hrd2.facts.1; clear hrd2 ho2)
          exact ⟨⟨u2, q2, hrd2'.out, by have := hl2.out; omega, hf'.out, ho2'.out⟩, by rw [hrd2'.out.left, hleft.out]; exact hl2.out⟩
        · rw [decide_eq_true h] at hbc
          clear h
          generalize (b.toNat : Int) = x at *
          go_wp2_with (go_at_call 62; (with_reducible refine Calls.mono hst.out ?_); rintro e w2 ⟨rfl, hrd2, ho2⟩; have hrd2' := Lib.hid hrd2; have ho2' := Lib.hid (ho'.out.trans ho2); have d0 := hrd2.facts.1; clear hrd2 ho2)
          exact ⟨⟨u2, q2, hrd2'.out, by have := hl2.out; omega, hf'.out, ho2'.out⟩, by rw [hrd2'.out.left, hleft.out]; exact hl2.out⟩
end Go.Proofs.Ythpohjafnljfhaa

namespace Go.Proofs.Ythpohjafnljfhaa
open Go.RowKit
attribute [local go_sem] Oper.semAt_some
attribute [local go_sem] wideF_fn wideF_depth wideF_round

/-! ## Token's parts, one by one -/
theorem TurnU.only {U : Nat → Prop} {X Y : World} {g : Nat} (h : Only g X Y) (hU : U g) (hlt : ∀ k, U k → k < X.heap.size) : TurnU U U X Y := by
  have hb := h.below (Nat.le_refl g)
  exact ⟨hb.os, hb.tape, hb.output, hb.size, fun k _ hn => h.block k (fun e => hn (e ▸ hU)), fun k h => .inl h, fun k h => Nat.lt_of_lt_of_le (hlt k h) hb.size⟩
def encPt (ps : List (List UInt8)) (j : Nat) : Array Value := #[.int .i64 (j : Int), .string ⟨(ps.getD j []).toArray⟩]
def capP (B1 B2 : Nat) : Nat → Prop := fun k => k = B1 ∨ k = B2
set_option maxRecDepth 100000 in
set_option maxHeartbeats 4000000 in
theorem parts1_seq (n : Nat) (s : List UInt8) (c : UInt8) (hc34 : c ≠ 34) (hs : s.length ≤ 1000000) (B1 B2 : Nat) (w : World) (k1 : Has w B1 9 #[.string ⟨s.toArray⟩]) (k2 : Has w B2 5 #[.int .u8 (c.toNat : Int)]) :
    SeqU n Try.prog 54 #[.pointer (some ⟨B1, 0, none⟩), .pointer (some ⟨B2, 0, none⟩)] (encPt (Ac.sp c false s)) (capP B1 B2) (Ac.sp c false s).length w := by
  intro l J Jx D Jp U0 W hW hcap hU0 hJ hJx hJp hY h0
  have k1 := k1.below hW k1.lt
  have k2 := k2.below hW k2.lt
  have c1 := k1.cell 0
  obtain ⟨R, hR⟩ : ∃ R, W.heap.size = R := ⟨_, rfl⟩
  have hA : Below W.heap.size W (W.alloc (.cells #[.string ⟨s.toArray⟩, .bool false] 84)) := (Below.refl W.heap.size W).alloc (Nat.le_refl _) _
  obtain ⟨U1, hU1⟩ : ∃ U1 : Nat → Prop, U1 = fun k => U0 k ∨ k = R := ⟨_, rfl⟩
  have u0 : ∀ k, U0 k → U1 k := fun k h => by rw [hU1]; exact .inl h
  have uR : U1 R := by rw [hU1]; exact .inr rfl
  have u1 : ∀ k, U1 k → U0 k ∨ R ≤ k := fun k h => by rw [hU1] at h; exact h.imp id (fun e => by omega)
  have ult : ∀ k, U1 k → k < R + 1 := fun k h => by rw [hU1] at h; rcases h with h | h; (have := hU0 k h; omega); omega
  clear hU1
  have hB2R : B2 ≠ R := by have := k2.lt; omega
  have hJa := Lib.hid (hJ U0 U1 0 W _ h0 (.of_below hA (fun k h => by rw [hR]; exact u1 k h) (fun k h => by have := ult k h; rw [World.size_alloc]; omega)))
  have hra := Lib.hid (show RdAt (W.alloc (.cells #[.string ⟨s.toArray⟩, .bool false] 84)) R s false by rw [← hR]; exact Has.new _ _ _)
  have k2a := Lib.hid (k2.below hA k2.lt)
  have uB2 : U1 B2 := u0 _ (hcap _ (.inr rfl))
  have hpl : (Ac.sp c false s).length ≤ 1000001 := by have := Ac.sp_len hc34 false s; omega
  have hpos : 0 < (Ac.sp c false s).length := List.length_pos_iff.2 (Ac.sp_ne c false s)
  have hY' := Lib.hid hY
  have hJ' := Lib.hid hJ
  have hend : ∀ (e : Ending) (V : World), (∀ k, U1 k → k < V.heap.size) → (((∃ v, e = .returned v) ∧ (J U1 (Ac.sp c false s).length V ∨ ∃ j, j < (Ac.sp c false s).length ∧ Jx U1 (j + 1) V)) ∨ (e = .panicked D ∧ Jp U1 V)) →
      ∃ U, (∀ k, U0 k → U k) ∧ (∀ k, U k → U0 k ∨ W.heap.size ≤ k) ∧ (∀ k, U k → k < V.heap.size) ∧ (((∃ v, e = .returned v) ∧ (J U (Ac.sp c false s).length V ∨ ∃ j, j < (Ac.sp c false s).length ∧ Jx U (j + 1) V)) ∨ (e = .panicked D ∧ Jp U V)) :=
    fun e V h1 h2 => ⟨U1, u0, fun k h => by rw [hR]; exact u1 k h, h1, h2⟩
  have hend' := Lib.hid hend
  clear hY hJ h0 k1 k2 hA hend u0 u1 hcap hU0
  obtain ⟨ps, hps⟩ : ∃ ps, Ac.sp c false s = ps := ⟨_, rfl⟩
  rw [hps] at hpos hpl hY' hend' ⊢
  have hps' := Lib.hid hps
  clear hps
  have hRW : W.heap.size = R := hR
  refine callsIn_of_wp Try.func54 rfl trivial ?_ rfl
  simp only [Try.ntmps54, List.size_toArray, List.length_cons, List.length_nil, Nat.reduceAdd, Nat.reduceSub, Array.replicate_succ, Array.replicate_zero, List.push_toArray, List.append_toArray, List.nil_append, List.cons_append]
  gi_wp2
  try rw [hR]
  gi_loopw [5] (fun x wr => ∃ (j : Nat) (t : List UInt8), j < ps.length ∧ x = .int .i64 (j : Int) ∧ RdAt wr R t false ∧ ps.drop j = Ac.sp c false t ∧ t.length ≤ s.length ∧ J U1 j wr ∧ Has wr B2 5 #[.int .u8 (c.toNat : Int)] ∧ R < wr.heap.size) (fun x _ => ps.length - (intOf x).toNat)
  case atStart => exact ⟨0, s, hpos, rfl, hra.out, by rw [List.drop_zero, hps'.out], Nat.le_refl _, hJa.out, k2a.out, by simp; omega⟩
  case round =>
    obtain ⟨j, t, hj, rfl, hrd, hdr, htl, hJs, k2r, hzr⟩ := hrel
    have c2 := k2r.cell 0
    have hpa := Lib.hid ((callsIn_wide (n := n - 1)).2 (part_all R c hc34 t false wr hrd (by omega)))
    unfold PartA at hpa
    have hJs' := Lib.hid hJs
    have k2r' := Lib.hid k2r
    have hdr' := Lib.hid hdr
    clear hrd hJs k2r hdr hra hJa k2a
    gi_wp2_with fail
    refine hpa.out.mono ?_
    rintro e w2 ⟨ho2, rfl, hrest⟩
    have hJ2 := hJ'.out _ _ _ _ _ hJs'.out (TurnU.only ho2 uR (fun k h => by have := ult k h; omega))
    have hz2 := (ho2.below (Nat.le_refl _)).size
    have ul2 := Lib.hid (fun k (h : U1 k) => show k < w2.heap.size by have := ult k h; omega)
    have k22 := Lib.hid (show Has w2 B2 5 #[.int .u8 (c.toNat : Int)] from (ho2.block B2 hB2R).trans k2r'.out)
    have hgd : ps.getD j [] = aheadL c t false := by
      have h := hdr'.out
      have e : ps[j]? = (ps.drop j)[0]? := by rw [List.getElem?_drop, Nat.add_zero]
      rw [List.getD_eq_getElem?_getD, e, h]
      cases hf : findL c t false with
      | none => rw [Ac.sp_none hf]; rfl
      | some r => rw [Ac.sp_some hf]; rfl
    obtain ⟨fn, tmps, assign, body, hy, hR3⟩ := hY'.out U1 j w2 hJ2 hj ul2.out
    have hy' : (Instr.yield l #[.int .i64 (j : Int), .string ⟨(aheadL c t false).toArray⟩]).run Try.prog w2 = .ok (Next.round l fn tmps assign body) w2 := by
      unfold encPt at hy
      rw [hgd] at hy
      exact hy
    have hR' := Lib.hid hR3
    have hrest' := Lib.hid hrest
    have hj' := Lib.hid hj
    clear hy hR3 hJ2 ho2 hpa hgd hrest
    cases hf : findL c t false with
    | none =>
      have hlast := Lib.hid (show j + 1 = ps.length by
        have h := congrArg List.length hdr'.out
        rw [Ac.sp_none hf, List.length_drop] at h
        simp at h
        omega)
      gi_wp2
      refine hR'.out.mono ?_
      rintro e W3 ⟨hk3, (⟨rfl, hj3⟩ | ⟨rfl, hj3⟩ | ⟨rfl, hj3⟩)⟩
      · have hk3' := Lib.hid hk3
        have hj3' := Lib.hid hj3
        clear hk3 hj3
        gi_wp2
        refine bodyPost_ret (results_none rfl _ _ _) rfl (hend'.out _ _ (fun k h => by have := ul2.out k h; have := hk3'.out.size; omega) (.inl ⟨⟨_, rfl⟩, .inl ?_⟩))
        rw [← hlast.out]
        exact hj3'.out
      · have hk3' := Lib.hid hk3
        have hj3' := Lib.hid hj3
        clear hk3 hj3
        gi_wp2
        exact bodyPost_ret (results_none rfl _ _ _) rfl (hend'.out _ _ (fun k h => by have := ul2.out k h; have := hk3'.out.size; omega) (.inl ⟨⟨_, rfl⟩, .inr ⟨j, hj'.out, hj3'.out⟩⟩))
      · exact ⟨rfl, hend'.out _ _ (fun k h => by have := ul2.out k h; have := hk3.size; omega) (.inr ⟨rfl, hj3⟩)⟩
    | some r =>
      have hr := Lib.hid (hrest'.out r hf)
      have hdn := Lib.hid (show ps.drop (j + 1) = Ac.sp c false r by
        have h := hdr'.out
        rw [Ac.sp_some hf] at h
        have e : ps.drop (j + 1) = (ps.drop j).drop 1 := by rw [List.drop_drop]
        rw [e, h]; rfl)
      have hjn := Lib.hid (show j + 1 < ps.length by
        have h := congrArg List.length hdn.out
        have := List.length_pos_iff.2 (Ac.sp_ne c false r)
        rw [List.length_drop] at h
        omega)
      gi_wp2
      refine hR'.out.mono ?_
      rintro e W3 ⟨hk3, (⟨rfl, hj3⟩ | ⟨rfl, hj3⟩ | ⟨rfl, hj3⟩)⟩
      · have hk3' := Lib.hid hk3
        have hj3' := Lib.hid hj3
        clear hk3 hj3
        gi_wp2
        refine ⟨⟨j + 1, r, hjn.out, by go_num, hk3'.out.has uR hr.out.1, hdn.out, by have := hr.out.2; omega, hj3'.out, hk3'.out.has uB2 k22.out, by have := hk3'.out.size; omega⟩, ?_⟩
        have := hjn.out
        simp [intOf]; omega
      · have hk3' := Lib.hid hk3
        have hj3' := Lib.hid hj3
        clear hk3 hj3
        gi_wp2
        exact bodyPost_ret (results_none rfl _ _ _) rfl (hend'.out _ _ (fun k h => by have := ul2.out k h; have := hk3'.out.size; omega) (.inl ⟨⟨_, rfl⟩, .inr ⟨j, hj'.out, hj3'.out⟩⟩))
      · exact ⟨rfl, hend'.out _ _ (fun k h => by have := ul2.out k h; have := hk3.size; omega) (.inr ⟨rfl, hj3⟩)⟩
end Go.Proofs.Ythpohjafnljfhaa
