import Derived.Test.YtabgpnieekcdhaaDoorAnD
import Derived.Test.YtabgpnieekcdhaaDoorRrF
import Derived.Test.YtabgpnieekcdhaaDoorBz
import Derived.Deep.RegionLaw
namespace Go.Proofs.YtabgpnieekcdhaaDoor
open Go.RowKit Go.Shelf
attribute [local go_sem] Oper.semAt_some
attribute [local go_sem] wideF_fn wideF_depth wideF_round

/-! ## head.Encode, of a head that may be; an answer's bytes -/
theorem bz_begin {W w' : World} {n0 k : Nat} {v : Value} {l : List UInt8} {t : TypeId} {cs : Array Value} (h : Has W k t cs) (hf : Bz W n0 v l) (hg : W.grownBy w' v.ownBlock) (ht : t ≠ 5) : Has w' k t cs :=
  (hg.block k h.lt (fun e => by
    obtain ⟨_, _, cs', fz, hc⟩ := hf.own k e.symm
    have := Option.some.inj ((show W.heap[k]? = _ from hc).symm.trans h)
    injection this with _ h2 _
    exact ht h2.symm)).trans h
set_option maxRecDepth 100000 in
set_option maxHeartbeats 8000000 in
theorem encodeH_any (f : List UInt8) (A : Option Addr) (c : Nat) (l : List PairL) (w : World) (hf : f.length ≤ 10000) (hl : l.length ≤ 100) (hq : ∀ q ∈ l, q.1.length ≤ 10000 ∧ q.2.length ≤ 10000) (hx : Prs w A l) (hh : Rr.headB f l = true) :
    Calls Tryd.prog 43 #[.agg #[.string ⟨f.toArray⟩, .slice A l.length c]] w fun e w' => ∃ v, e = .returned (.tuple #[v, .int .i64 0]) ∧ Bz w' w.heap.size v (An.headT f l) ∧ Below w.heap.size w w' := by
  obtain ⟨n, hn⟩ : ∃ n, w.heap.size = n := ⟨_, rfl⟩
  obtain ⟨w1, hw1⟩ : ∃ w1, w.alloc (.cells #[.string ⟨f.toArray⟩, .slice A l.length c] 53) = w1 := ⟨_, rfl⟩
  have hB1 : Below w.heap.size w w1 := by rw [← hw1]; exact (Below.refl _ _).alloc (Nat.le_refl _) _
  have z0 : Has w1 n 53 #[.string ⟨f.toArray⟩, .slice A l.length c] := by rw [← hw1, ← hn]; exact Has.new _ _ _
  have c0 := z0.cell 0
  have c1 := z0.cell 1
  have hck := Lib.hid (check_yes f A c l w1 (by omega) (by omega) (fun q h => by have := hq q h; omega) (hx.below hB1) hh)
  have hz0' := Lib.hid z0
  have hB1' := Lib.hid hB1
  have hx1 := Lib.hid (hx.below hB1)
  have hx0 := Lib.hid hx
  have hq' := Lib.hid hq
  have hcv := Lib.hid (fun W (hn : n + 1 ≤ W.heap.size) => bm_of_text W (n + 1) f hn (by omega))
  have hz1 : n + 1 ≤ w1.heap.size := z0.lt
  clear hB1 z0 hx hq hh
  go_enter Tryd.func43, Tryd.ntmps43
  go_upto_region 4 with (go_at_call 47; (with_reducible refine Calls.mono hck.out ?_); rintro e w2 ⟨rfl, hb2⟩; have hz2 := hb2.size; have z2 := hz0'.out.below hb2 hz0'.out.lt; have c20 := z2.cell 0; have c21 := z2.cell 1; have hz2' := Lib.hid z2; have hB2 := Lib.hid hb2; have hx2 := Lib.hid (hx1.out.below hb2); clear hb2 z2)
  obtain ⟨cc, w3, hcr, hbz3, hb3⟩ := hcv.out w2 (by omega)
  have z3 := hz2'.out.below hb3 hz2'.out.lt
  have c31 := z3.cell 1
  have hz3' := Lib.hid z3
  have hbz3' := Lib.hid hbz3
  have hB3 := Lib.hid (below_on hB2.out hb3)
  have hx3 := Lib.hid (hx2.out.below hb3)
  have hz3s : n + 1 ≤ w3.heap.size := by have := hb3.size; omega
  clear hbz3 hb3 z3
  go_upto_region 5 with (at_builtin; refine wpList_append_textZ rfl _ _ rfl rfl hbz3'.out ⟨#[13, 10]⟩ rfl (by show f.length + 2 ≤ _; omega) (by omega) ?_; intro v4 w4 hv4 hg4; have z4 := bz_begin hz3'.out hbz3'.out hg4 (by decide); have c41 := z4.cell 1; have hz4' := Lib.hid z4; obtain ⟨A4, c4, e4, -⟩ := hv4.shape; subst e4; have hv4' := Lib.hid hv4; have hg4' := Lib.hid hg4; clear z4 hv4 hg4)
  have hB4 : Hid (Below (n + 1) w1 w4) := Lib.hid ((hB3.out.mono hz1).grown hg4'.out (by omega) (fun g e => (hbz3'.out.own g e).1))
  have hz4s : n + 1 ≤ w4.heap.size := by have := hg4'.out.size; omega
  have hst : Hid (Bz w4 (n + 1) (.slice A4 (f.length + 2) c4) (f ++ An.crlf ++ (l.take 0).flatMap An.fieldT)) := Lib.hid (by
    have h := hv4'.out
    have e : f ++ (⟨#[13, 10]⟩ : ByteArray).data.toList = f ++ An.crlf ++ (l.take 0).flatMap An.fieldT := by simp [An.crlf]
    rw [e] at h
    rw [show (f ++ An.crlf ++ (l.take 0).flatMap An.fieldT).length = f.length + 2 by simp [An.crlf]] at h
    exact h)
  have hli : (l.length : Int) ≤ 100 := by omega
  have hfl : Hid (f.length ≤ 10000) := Lib.hid hf
  clear c31 c21 c20 hz3s hz2 hcr c0 c1
  go_wp2
  go_loopw [5, 7, 20] (fun b _ x W => ∃ k : Nat, k ≤ l.length ∧ x = .int .i64 (k : Int) ∧ Bz W (n + 1) b (f ++ An.crlf ++ (l.take k).flatMap An.fieldT) ∧ Below (n + 1) w1 W ∧ n + 1 ≤ W.heap.size) (fun _ _ x _ => l.length - (intOf x).toNat)
  case atStart => exact ⟨0, Nat.zero_le _, rfl, hst.out, hB4.out, hz4s⟩
  case round =>
    obtain ⟨k, hk, rfl, hbz, hbr, hzr⟩ := hrel
    obtain ⟨Ar, cr, rfl, -⟩ := hbz.shape
    by_cases hlt : k < l.length
    · have hltI : (k : Int) < (l.length : Int) := by omega
      have hBn : Below w.heap.size w wr := hB1'.out.trans (hbr.mono (by omega))
      obtain ⟨b, o, hA, hbl, hcs⟩ := (hx0.out.below hBn) (by omega)
      subst hA
      obtain ⟨q, hqk⟩ : ∃ q, l[k] = q := ⟨_, rfl⟩
      obtain ⟨d0, d1⟩ := hcs k q (by rw [List.getElem?_eq_getElem hlt, hqk])
      have hql := hq'.out q (by rw [← hqk]; exact List.getElem_mem hlt)
      have hnx : Hid (f ++ An.crlf ++ (l.take (k + 1)).flatMap An.fieldT = f ++ An.crlf ++ (l.take k).flatMap An.fieldT ++ q.1 ++ [58, 32] ++ q.2 ++ [13, 10]) := Lib.hid (by rw [List.take_succ_eq_append_getElem hlt, hqk]; simp [An.fieldT])
      have hsm : Hid ((f ++ An.crlf ++ (l.take k).flatMap An.fieldT).length ≤ 10002 + 100 * 20004) := Lib.hid (by
        have h1 := An.flat_len (m := 20004) (l := l.take k) (fun x hx => by have := hq'.out x (List.mem_of_mem_take hx); rw [An.fieldT_len]; omega)
        have h2 : (l.take k).length * 20004 ≤ 100 * 20004 := Nat.mul_le_mul_right _ (by rw [List.length_take]; omega)
        have := hfl.out
        rw [List.length_append, List.length_append]
        show _ + 2 + _ ≤ _
        omega)
      clear hcs hqk
      obtain ⟨q1, q2⟩ := q
      simp only at d0 d1 hql hnx
      obtain ⟨L, hL⟩ : ∃ L, f ++ An.crlf ++ (l.take k).flatMap An.fieldT = L := ⟨_, rfl⟩
      rw [hL] at hbz hnx hsm ⊢
      clear hL
      have hnw := Has.new wr 69 #[.string ⟨q1.toArray⟩, .string ⟨q2.toArray⟩]
      have hbw := (Below.refl wr.heap.size wr).alloc (Nat.le_refl _) (.cells #[.string ⟨q1.toArray⟩, .string ⟨q2.toArray⟩] 69)
      obtain ⟨m, hm⟩ : ∃ m, wr.heap.size = m := ⟨_, rfl⟩
      obtain ⟨w5, hw5⟩ : ∃ w5, wr.alloc (.cells #[.string ⟨q1.toArray⟩, .string ⟨q2.toArray⟩] 69) = w5 := ⟨_, rfl⟩
      rw [hw5] at hnw hbw
      rw [hm] at hnw
      have x0 := hnw.cell 0
      have x1 := hnw.cell 1
      have g0 : w5.drew.cell? ⟨m, 0, none⟩ = some (.string ⟨q1.toArray⟩) := hnw.cell 0
      have g1 : w5.drew.cell? ⟨m, 1, none⟩ = some (.string ⟨q2.toArray⟩) := hnw.cell 1
      have hz5 : n + 1 ≤ w5.drew.heap.size := by have := hbw.size; show n + 1 ≤ w5.heap.size; omega
      have k5 := Lib.hid (show Has w5.drew m 69 #[.string ⟨q1.toArray⟩, .string ⟨q2.toArray⟩] from hnw)
      have v5 := Lib.hid (show Bz w5.drew (n + 1) (.slice Ar L.length cr) L from (hbz.below hbw).below (Below.refl _ _).drew)
      have b5 := Lib.hid (show Below (n + 1) w1 w5.drew from (hbr.trans (hbw.mono hzr)).drew)
      have hq1 := hql.1
      have hq2 := hql.2
      have hs1 : Hid (L.length + (⟨q1.toArray⟩ : ByteArray).size ≤ 140737488355328) := Lib.hid (by show L.length + q1.toArray.size ≤ _; have := hsm.out; simp; omega)
      have hs2 : Hid ((L ++ q1).length + (⟨#[58, 32]⟩ : ByteArray).size ≤ 140737488355328) := Lib.hid (by show (L ++ q1).length + 2 ≤ _; have := hsm.out; simp; omega)
      have hs3 : Hid ((L ++ q1 ++ [58, 32]).length + (⟨q2.toArray⟩ : ByteArray).size ≤ 140737488355328) := Lib.hid (by show (L ++ q1 ++ [58, 32]).length + q2.toArray.size ≤ _; have := hsm.out; simp; omega)
      have hs4 : Hid ((L ++ q1 ++ [58, 32] ++ q2).length + (⟨#[13, 10]⟩ : ByteArray).size ≤ 140737488355328) := Lib.hid (by show (L ++ q1 ++ [58, 32] ++ q2).length + 2 ≤ _; have := hsm.out; simp; omega)
      clear hbz hbr hbw hnw hsm hql
      go_upto_region 8 with (fail)
      try rw [hw5]
      go_region_law
        (first
          | (refine step_append_textZ rfl (.tmp 24) (.tmp 26) rfl (by rfl) v5.out ⟨q1.toArray⟩ (by rfl) hs1.out hz5 ?_
             intro v6 w6 hv6 hg6
             have k6 := bz_begin k5.out v5.out hg6 (by decide)
             have e60 := k6.cell 0
             have e61 := k6.cell 1
             have k6' := Lib.hid k6
             have hv6' := Lib.hid (show Bz w6 (n + 1) v6 (L ++ q1) from hv6)
             have b6 := Lib.hid (b5.out.grown hg6 hz5 (fun g e => (v5.out.own g e).1))
             have hz6 : n + 1 ≤ w6.heap.size := Nat.le_trans hz5 hg6.size
             clear k6 hv6 hg6)
          | (refine step_append_textZ rfl (.tmp 27) (.const (.string ⟨#[58, 32]⟩)) rfl (by rfl) hv6'.out ⟨#[58, 32]⟩ (by rfl) hs2.out hz6 ?_
             intro v7 w7 hv7 hg7
             have k7 := bz_begin k6'.out hv6'.out hg7 (by decide)
             have e70 := k7.cell 0
             have e71 := k7.cell 1
             have k7' := Lib.hid k7
             have hv7' := Lib.hid (show Bz w7 (n + 1) v7 (L ++ q1 ++ [58, 32]) from hv7)
             have b7 := Lib.hid (b6.out.grown hg7 hz6 (fun g e => (hv6'.out.own g e).1))
             have hz7 : n + 1 ≤ w7.heap.size := Nat.le_trans hz6 hg7.size
             clear k7 hv7 hg7)
          | (refine step_append_textZ rfl (.tmp 28) (.tmp 30) rfl (by rfl) hv7'.out ⟨q2.toArray⟩ (by rfl) hs3.out hz7 ?_
             intro v8 w8 hv8 hg8
             have hv8' := Lib.hid (show Bz w8 (n + 1) v8 (L ++ q1 ++ [58, 32] ++ q2) from hv8)
             have b8 := Lib.hid (b7.out.grown hg8 hz7 (fun g e => (hv7'.out.own g e).1))
             have hz8 : n + 1 ≤ w8.heap.size := Nat.le_trans hz7 hg8.size
             clear hv8 hg8)
          | (refine step_append_textZ rfl (.tmp 31) (.const (.string ⟨#[13, 10]⟩)) rfl (by rfl) hv8'.out ⟨#[13, 10]⟩ (by rfl) hs4.out hz8 ?_
             intro v9 w9 hv9 hg9
             have hv9' := Lib.hid (show Bz w9 (n + 1) v9 (L ++ q1 ++ [58, 32] ++ q2 ++ [13, 10]) from hv9)
             have b9 := Lib.hid (b8.out.grown hg9 hz8 (fun g e => (hv8'.out.own g e).1))
             have hz9 : n + 1 ≤ w9.heap.size := Nat.le_trans hz8 hg9.size
             clear hv9 hg9))
      all_goals (
        clear e60 e61 e70 e71 g0 g1 x0 x1
        obtain ⟨A9, m9, c9, e9, hv9o⟩ := hv9'.out.opened
        have hv9p := Lib.hid hv9o
        clear hv9' hv9o
        subst e9
        go_wp2
        exact ⟨⟨k + 1, by omega, by go_num, by rw [hnx.out]; exact hv9p.out, b9.out, hz9⟩, by simp [intOf]; omega⟩)
    · obtain rfl : k = l.length := by omega
      rw [List.take_length] at hbz ⊢
      have hsm : Hid ((f ++ An.crlf ++ l.flatMap An.fieldT).length ≤ 10002 + 100 * 20004) := Lib.hid (by
        have h1 := An.flat_len (m := 20004) (l := l) (fun x hx => by have := hq'.out x hx; rw [An.fieldT_len]; omega)
        have h2 : l.length * 20004 ≤ 100 * 20004 := Nat.mul_le_mul_right _ (by omega)
        have := hfl.out
        rw [List.length_append, List.length_append]
        show _ + 2 + _ ≤ _
        omega)
      have hhd : Hid (An.headT f l = f ++ An.crlf ++ l.flatMap An.fieldT ++ [13, 10]) := Lib.hid rfl
      generalize f ++ An.crlf ++ l.flatMap An.fieldT = L at *
      have hbz' := Lib.hid hbz
      have hbr' := Lib.hid hbr
      clear hbz hbr
      go_wp2_with (at_builtin; refine wpList_append_textZ rfl _ _ rfl rfl hbz'.out ⟨#[13, 10]⟩ rfl (by show L.length + 2 ≤ _; have := hsm.out; omega) hzr ?_; intro v8 w8 hv8 hg8; obtain ⟨A8, m8, c8, e8, hv8o⟩ := hv8.opened; subst e8; have hv8' := Lib.hid hv8; clear hv8o; have hb8 := Lib.hid (hbr'.out.grown hg8 hzr (fun g e => (hbz'.out.own g e).1)); clear hv8 hg8)
      go_ret2
      rw [hhd.out]
      have hBx : Below n w w8 := (show Below n w w1 from hn ▸ hB1'.out).trans (hb8.out.mono (Nat.le_succ n))
      have hvx : Bz w8 n (.slice A8 m8 c8) (L ++ [13, 10]) := hv8'.out.mono (Nat.le_succ n)
      refine ⟨.slice A8 m8 c8, rfl, ?_, ?_⟩
      · exact hvx
      · exact hBx
/-- What an answer under way is in bytes. -/
theorem bytes_any (u : Nat) (f : List UInt8) (l : List PairL) (t : List UInt8) (w : World) (hU : UnB w u f l ⟨t.toArray⟩) (hf : f.length ≤ 10000) (hl : l.length ≤ 10) (hq : ∀ q ∈ l, q.1.length ≤ 17 ∧ q.2.length ≤ 20) (hf2 : f.length ≤ 100) (ht : t.length ≤ 1000000) (hh : Rr.headB f l = true) :
    Calls Tryd.prog 28 #[.pointer (some ⟨u, 0, none⟩)] w fun e w' => ∃ v, e = .returned v ∧ Bz w' w.heap.size v (An.headT f l ++ t) ∧ Below w.heap.size w w' := by
  obtain ⟨v, h1, h2⟩ := hU
  obtain ⟨A, ca, rfl, hp⟩ := h2.prs
  have c0 := h1.cell 0
  have c1 := h1.cell 1
  have c2 := h1.cell 2
  have he := Lib.hid (encodeH_any f A ca l w hf (by omega) (fun q h => by have := hq q h; omega) hp hh)
  have hle := An.head_len hf2 hl hq
  have h1' := Lib.hid h1
  generalize An.headT f l = H at *
  clear h1 h2 hp hh
  go_enter Tryd.func28, Tryd.ntmps28
  go_wp2_with (first
    | (go_at_call 43; (with_reducible refine Calls.mono he.out ?_); rintro e w3 ⟨v3, rfl, hv3, hb3⟩; obtain ⟨A3, c3, e3, -⟩ := hv3.shape; subst e3; have d2 := (h1'.out.below hb3 h1'.out.lt).cell 2; have hv3' := Lib.hid hv3; have hb3' := Lib.hid hb3; have hz3 := hb3.size; clear hv3 hb3)
    | (at_builtin; refine wpList_append_textZ rfl _ _ rfl rfl hv3'.out ⟨t.toArray⟩ rfl (by show H.length + t.toArray.size ≤ _; simp; omega) hz3 ?_; intro v8 w8 hv8 hg8; obtain ⟨A8, m8, c8, e8, hv8o⟩ := hv8.opened; subst e8; have hv8' := Lib.hid hv8; clear hv8o; have hb8 := Lib.hid (hb3'.out.grown hg8 hz3 (fun g e => (hv3'.out.own g e).1)); clear hv8 hg8))
  go_ret
  exact ⟨_, rfl, hv8'.out, hb8.out⟩
end Go.Proofs.YtabgpnieekcdhaaDoor
