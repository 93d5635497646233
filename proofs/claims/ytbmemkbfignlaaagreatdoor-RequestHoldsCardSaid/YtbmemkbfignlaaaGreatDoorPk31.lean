import Derived.Test.YtbmemkbfignlaaaGreatDoorPk30
import Derived.Test.YtbmemkbfignlaaaGreatDoorPk43
import Derived.OwnWalkIn
import Derived.TacticsInMore
import Derived.LoopNIn
import Derived.LoopIn
import Derived.Test.YtbmemkbfignlaaaGreatDoorPk18
import Derived.Test.YtbmemkbfignlaaaGreatDoorPk28
import Derived.Sort.BigQuietIn
import Derived.BigQuiet
import Derived.Deep.QuietTactic
namespace Go.Proofs.YtbmemkbfignlaaaGreatDoor
open Go.RowKit
attribute [local go_sem] Oper.semAt_some
attribute [local go_sem] wideF_fn wideF_depth wideF_round

/-! ## Token's parts, one by one -/
theorem TurnU.only {U : Nat → Prop} {X Y : World} {g : Nat} (h : Only g X Y) (hU : U g) (hlt : ∀ k, U k → k < X.heap.size) : TurnU U U X Y := by
  have hb := h.below (Nat.le_refl g)
  exact ⟨hb.os, hb.tape, hb.output, hb.size, fun k _ hn => h.block k (fun e => hn (e ▸ hU)), fun k h => .inl h, fun k h => Nat.lt_of_lt_of_le (hlt k h) hb.size⟩
def encPt (ps : List (List UInt8)) (j : Nat) : Array Value := #[.int .i64 (j : Int), .string ⟨(ps.getD j []).toArray⟩]
def capP (B1 B2 : Nat) : Nat → Prop := fun k => k = B1 ∨ k = B2
set_option maxRecDepth 100000 in
set_option maxHeartbeats 4000000 in
theorem parts1_seq (n : Nat) (s : List UInt8) (c : UInt8) (hc34 : c ≠ 34) (hs : s.length ≤ 1000000) (B1 B2 : Nat) (w : World) (k1 : Has w B1 9 #[.string ⟨s.toArray⟩]) (k2 : Has w B2 5 #[.int .u8 (c.toNat : Int)]) :
    SeqU n Tryz.prog 228 #[.pointer (some ⟨B1, 0, none⟩), .pointer (some ⟨B2, 0, none⟩)] (encPt (Ac.sp c false s)) (capP B1 B2) (Ac.sp c false s).length w := by
  intro l J Jx D Jp U0 W hW hcap hU0 hJ hJx hJp hY h0
  have k1 := k1.below hW k1.lt
  have k2 := k2.below hW k2.lt
  have c1 := k1.cell 0
  obtain ⟨R, hR⟩ : ∃ R, W.heap.size = R := ⟨_, rfl⟩
  have hA : Below W.heap.size W (W.alloc (.cells #[.string ⟨s.toArray⟩, .bool false] 257)) := (Below.refl W.heap.size W).alloc (Nat.le_refl _) _
  obtain ⟨U1, hU1⟩ : ∃ U1 : Nat → Prop, U1 = fun k => U0 k ∨ k = R := ⟨_, rfl⟩
  have u0 : ∀ k, U0 k → U1 k := fun k h => by rw [hU1]; exact .inl h
  have uR : U1 R := by rw [hU1]; exact .inr rfl
  have u1 : ∀ k, U1 k → U0 k ∨ R ≤ k := fun k h => by rw [hU1] at h; exact h.imp id (fun e => by omega)
  have ult : ∀ k, U1 k → k < R + 1 := fun k h => by rw [hU1] at h; rcases h with h | h; (have := hU0 k h; omega); omega
  clear hU1
  have hB2R : B2 ≠ R := by have := k2.lt; omega
  have hJa := Lib.hid (hJ U0 U1 0 W _ h0 (.of_below hA (fun k h => by rw [hR]; exact u1 k h) (fun k h => by have := ult k h; rw [World.size_alloc]; omega)))
  have hra := Lib.hid (show RdAt (W.alloc (.cells #[.string ⟨s.toArray⟩, .bool false] 257)) R s false by rw [← hR]; exact Has.new _ _ _)
  have k2a := Lib.hid (k2.below hA k2.lt)
  have uB2 : U1 B2 := u0 _ (hcap _ (.inr rfl))
  have hpl : (Ac.sp c false s).length ≤ 1000001 := by have := Ac.sp_len hc34 false s; omega
  have hpos : 0 < (Ac.sp c false s).length := List.length_pos_iff.2 (Ac.sp_ne c false s)
  have hY' := Lib.hid hY
  have hJ' := Lib.hid hJ
  have hend : ∀ (e : Ending) (V : World), (∀ k, U1 k → k < V.heap.size) → (((∃ v, e = .returned v) ∧ (J U1 (Ac.sp c false s).length V ∨ ∃ j, j < (Ac.sp c false s).length ∧ Jx U1 (j + 1) V)) ∨ (e = .panicked D ∧ Jp U1 V)) →
      ∃ U, (∀ k, U0 k → U k) ∧ (∀ k, U k → U0 k ∨ W.heap.size ≤ k) ∧ (∀ k, U k → k < V.heap.size) ∧ (((∃ v, e = .returned v) ∧ (J U (Ac.sp c false s).length V ∨ ∃ j, j < (Ac.sp c false s).length ∧ Jx U (j + 1) V)) ∨ (e = .panicked D ∧ Jp U V)) :=
    fun e V h1 h2 => ⟨U1, u0, fun k h => by rw [hR]; exact u1 k h, h1, h2⟩
  have hend' := Lib.hid hend
  clear hY hJ h0 k1 k2 hA hend u0 u1 hcap hU0
  obtain ⟨ps, hps⟩ : ∃ ps, Ac.sp c false s = ps := ⟨_, rfl⟩
  rw [hps] at hpos hpl hY' hend' ⊢
  have hps' := Lib.hid hps
  clear hps
  have hRW : W.heap.size = R := hR
  refine callsIn_of_wp Tryz.func228 rfl trivial ?_ rfl
  simp only [Tryz.ntmps228, List.size_toArray, List.length_cons, List.length_nil, Nat.reduceAdd, Nat.reduceSub, Array.replicate_succ, Array.replicate_zero, List.push_toArray, List.append_toArray, List.nil_append, List.cons_append]
  gi_wp2
  try rw [hR]
  gi_loopw [5] (fun x wr => ∃ (j : Nat) (t : List UInt8), j < ps.length ∧ x = .int .i64 (j : Int) ∧ RdAt wr R t false ∧ ps.drop j = Ac.sp c false t ∧ t.length ≤ s.length ∧ J U1 j wr ∧ Has wr B2 5 #[.int .u8 (c.toNat : Int)] ∧ R < wr.heap.size) (fun x _ => ps.length - (intOf x).toNat)
  case atStart => exact ⟨0, s, hpos, rfl, hra.out, by rw [List.drop_zero, hps'.out], Nat.le_refl _, hJa.out, k2a.out, by simp; omega⟩
  case round =>
    obtain ⟨j, t, hj, rfl, hrd, hdr, htl, hJs, k2r, hzr⟩ := hrel
    have c2 := k2r.cell 0
    have hpa := Lib.hid ((callsIn_wide (n := n - 1)).2 (part_all R c hc34 t false wr hrd (by omega)))
    unfold PartA at hpa
    have hJs' := Lib.hid hJs
    have k2r' := Lib.hid k2r
    have hdr' := Lib.hid hdr
    clear hrd hJs k2r hdr hra hJa k2a
    gi_wp2_with fail
    refine hpa.out.mono ?_
    rintro e w2 ⟨ho2, rfl, hrest⟩
    have hJ2 := hJ'.out _ _ _ _ _ hJs'.out (TurnU.only ho2 uR (fun k h => by have := ult k h; omega))
    have hz2 := (ho2.below (Nat.le_refl _)).size
    have ul2 := Lib.hid (fun k (h : U1 k) => show k < w2.heap.size by have := ult k h; omega)
    have k22 := Lib.hid (show Has w2 B2 5 #[.int .u8 (c.toNat : Int)] from (ho2.block B2 hB2R).trans k2r'.out)
    have hgd : ps.getD j [] = aheadL c t false := by
      have h := hdr'.out
      have e : ps[j]? = (ps.drop j)[0]? := by rw [List.getElem?_drop, Nat.add_zero]
      rw [List.getD_eq_getElem?_getD, e, h]
      cases hf : findL c t false with
      | none => rw [Ac.sp_none hf]; rfl
      | some r => rw [Ac.sp_some hf]; rfl
    obtain ⟨fn, tmps, assign, body, hy, hR3⟩ := hY'.out U1 j w2 hJ2 hj ul2.out
    have hy' : (Instr.yield l #[.int .i64 (j : Int), .string ⟨(aheadL c t false).toArray⟩]).run Tryz.prog w2 = .ok (Next.round l fn tmps assign body) w2 := by
      unfold encPt at hy
      rw [hgd] at hy
      exact hy
    have hR' := Lib.hid hR3
    have hrest' := Lib.hid hrest
    have hj' := Lib.hid hj
    clear hy hR3 hJ2 ho2 hpa hgd hrest
    cases hf : findL c t false with
    | none =>
      have hlast := Lib.hid (show j + 1 = ps.length by
        have h := congrArg List.length hdr'.out
        rw [Ac.sp_none hf, List.length_drop] at h
        simp at h
        omega)
      gi_wp2
      refine hR'.out.mono ?_
      rintro e W3 ⟨hk3, (⟨rfl, hj3⟩ | ⟨rfl, hj3⟩ | ⟨rfl, hj3⟩)⟩
      · have hk3' := Lib.hid hk3
        have hj3' := Lib.hid hj3
        clear hk3 hj3
        gi_wp2
        refine bodyPost_ret (results_none rfl _ _ _) rfl (hend'.out _ _ (fun k h => by have := ul2.out k h; have := hk3'.out.size; omega) (.inl ⟨⟨_, rfl⟩, .inl ?_⟩))
        rw [← hlast.out]
        exact hj3'.out
      · have hk3' := Lib.hid hk3
        have hj3' := Lib.hid hj3
        clear hk3 hj3
        gi_wp2
        exact bodyPost_ret (results_none rfl _ _ _) rfl (hend'.out _ _ (fun k h => by have := ul2.out k h; have := hk3'.out.size; omega) (.inl ⟨⟨_, rfl⟩, .inr ⟨j, hj'.out, hj3'.out⟩⟩))
      · exact ⟨rfl, hend'.out _ _ (fun k h => by have := ul2.out k h; have := hk3.size; omega) (.inr ⟨rfl, hj3⟩)⟩
    | some r =>
      have hr := Lib.hid (hrest'.out r hf)
      have hdn := Lib.hid (show ps.drop (j + 1) = Ac.sp c false r by
        have h := hdr'.out
        rw [Ac.sp_some hf] at h
        have e : ps.drop (j + 1) = (ps.drop j).drop 1 := by rw [List.drop_drop]
        rw [e, h]; rfl)
      have hjn := Lib.hid (show j + 1 < ps.length by
        have h := congrArg List.length hdn.out
        have := List.length_pos_iff.2 (Ac.sp_ne c false r)
        rw [List.length_drop] at h
        omega)
      gi_wp2
      refine hR'.out.mono ?_
      rintro e W3 ⟨hk3, (⟨rfl, hj3⟩ | ⟨rfl, hj3⟩ | ⟨rfl, hj3⟩)⟩
      · have hk3' := Lib.hid hk3
        have hj3' := Lib.hid hj3
        clear hk3 hj3
        gi_wp2
        refine ⟨⟨j + 1, r, hjn.out, by go_num, hk3'.out.has uR hr.out.1, hdn.out, by have := hr.out.2; omega, hj3'.out, hk3'.out.has uB2 k22.out, by have := hk3'.out.size; omega⟩, ?_⟩
        have := hjn.out
        simp [intOf]; omega
      · have hk3' := Lib.hid hk3
        have hj3' := Lib.hid hj3
        clear hk3 hj3
        gi_wp2
        exact bodyPost_ret (results_none rfl _ _ _) rfl (hend'.out _ _ (fun k h => by have := ul2.out k h; have := hk3'.out.size; omega) (.inl ⟨⟨_, rfl⟩, .inr ⟨j, hj'.out, hj3'.out⟩⟩))
      · exact ⟨rfl, hend'.out _ _ (fun k h => by have := ul2.out k h; have := hk3.size; omega) (.inr ⟨rfl, hj3⟩)⟩
end Go.Proofs.YtbmemkbfignlaaaGreatDoor

namespace Go.Proofs.YtbmemkbfignlaaaGreatDoor
open Go.RowKit
attribute [local go_sem] Oper.semAt_some
attribute [local go_sem] wideF_fn wideF_depth wideF_round

/-! ## Token's Each, one by one -/
def encEa (ps : List (List UInt8)) (j : Nat) : Array Value := #[.int .i64 (j : Int), .string ⟨(trimL (ps.getD j [])).toArray⟩]
/-- An iterator's own blocks: what it was given, its box, and those of the iterator that it goes over. -/
def extU (U0 : Nat → Prop) (b : Nat) (U : Nat → Prop) : Nat → Prop := fun k => U0 k ∨ k = b ∨ U k
theorem TurnU.ext {U0 U U' : Nat → Prop} {b : Nat} {X Y : World} (h : TurnU U U' X Y) (h0 : ∀ k, U0 k → k < X.heap.size) (hb : b < X.heap.size) : TurnU (extU U0 b U) (extU U0 b U') X Y :=
  ⟨h.os, h.tape, h.output, h.size, fun k hk hn => h.same k hk (fun hu => hn (.inr (.inr hu))), fun k hk => by
    rcases hk with hk | hk | hk
    · exact .inl (.inl hk)
    · exact .inl (.inr (.inl hk))
    · exact (h.more k hk).imp (fun h => .inr (.inr h)) id, fun k hk => by
    have := h.size
    rcases hk with hk | hk | hk
    · have := h0 k hk; omega
    · omega
    · exact h.lt k hk⟩
theorem collected_out {W : World} {d : Nat} {U : Nat → Prop} (hd : U d) (hk : NoCalls W d) (hlt : ∀ k, U k → k < W.heap.size) : TurnU U U W (W.putObj d (.deferred none)) := .put hd hk _ hlt
set_option maxRecDepth 100000 in
set_option maxHeartbeats 4000000 in
theorem each1_seq (n : Nat) (s : List UInt8) (c : UInt8) (hc34 : c ≠ 34) (hs : s.length ≤ 1000000) (B1 B2 : Nat) (w : World) (k1 : Has w B1 9 #[.string ⟨s.toArray⟩]) (k2 : Has w B2 5 #[.int .u8 (c.toNat : Int)]) :
    SeqU n Tryz.prog 222 #[.pointer (some ⟨B1, 0, none⟩), .pointer (some ⟨B2, 0, none⟩)] (encEa (Ac.sp c false s)) (capP B1 B2) (Ac.sp c false s).length w := by
  intro l J Jx D Jp U0 W hW hcap hU0 hJ hJx hJp hY h0
  have k1 := k1.below hW k1.lt
  have k2 := k2.below hW k2.lt
  obtain ⟨b, hb⟩ : ∃ b, W.heap.size = b := ⟨_, rfl⟩
  obtain ⟨W1, hW1⟩ : ∃ W1, W.alloc (.cells #[.func (.yield l) #[] #[]] 168) = W1 := ⟨_, rfl⟩
  have hB1 : Below W.heap.size W W1 := by rw [← hW1]; exact (Below.refl _ _).alloc (Nat.le_refl _) _
  have kb : Has W1 b 168 #[.func (.yield l) #[] #[]] := by rw [← hW1, ← hb]; exact Has.new _ _ _
  have z1 : W1.heap.size = b + 1 := by rw [← hW1, World.size_alloc, hb]
  have k1b := k1.below hB1 k1.lt
  have k2b := k2.below hB1 k2.lt
  have c1 := k1b.cell 0
  have c2 := k2b.cell 0
  obtain ⟨W2, hW2⟩ : ∃ W2, (W1.alloc (.cells #[.string ⟨s.toArray⟩] 9)).alloc (.cells #[.int .u8 (c.toNat : Int)] 5) = W2 := ⟨_, rfl⟩
  have hp := parts_any s c W1
  rw [hW2] at hp
  have hp1 : Has W2 (b + 1) 9 #[.string ⟨s.toArray⟩] := by rw [← hW2, ← z1]; exact (Has.new _ _ _).alloc _
  have hp2 : Has W2 (b + 1 + 1) 5 #[.int .u8 (c.toNat : Int)] := by
    have := Has.new (W1.alloc (.cells #[.string ⟨s.toArray⟩] 9)) 5 #[.int .u8 (c.toNat : Int)]
    rw [hW2, World.size_alloc, z1] at this
    exact this
  have hB2 : Below W1.heap.size W1 W2 := by rw [← hW2]; exact ((Below.refl _ _).alloc (Nat.le_refl _) _).alloc (by simp) _
  have z2 : W2.heap.size = b + 3 := by rw [← hW2]; simp [z1]
  have hBW2 : Below W.heap.size W W2 := hB1.trans (hB2.mono hB1.size)
  rw [z1] at hp
  have hcapE : ∀ k, capP (b + 1) (b + 1 + 1) k → k < W2.heap.size := fun k h => by rcases h with h | h <;> omega
  have hJ0 := Lib.hid (hJ U0 (extU U0 b (capP (b + 1) (b + 1 + 1))) 0 W W2 h0 (.of_below hBW2 (fun k h => by rcases h with h | h | h | h; exact .inl h; all_goals (right; omega)) (fun k h => by rcases h with h | h | h | h; (have := hU0 k h; omega); all_goals omega)))
  have kb2 := Lib.hid (kb.below hB2 kb.lt)
  have hp' := Lib.hid hp
  have hp1' := Lib.hid hp1
  have hp2' := Lib.hid hp2
  have hY' := Lib.hid hY
  have hJ' := Lib.hid hJ
  have hJx' := Lib.hid hJx
  have hJp' := Lib.hid hJp
  have hU0' := Lib.hid (fun k (h : U0 k) => show k < b by have := hU0 k h; omega)
  have hcapE' := Lib.hid hcapE
  have hpl : ∀ x ∈ Ac.sp c false s, x.length ≤ 1000000 := fun x hx => by have := Ac.sp_mem hc34 false s x hx; omega
  have hpl' := Lib.hid hpl
  have hend : ∀ (e : Ending) (V : World) (U : Nat → Prop), (∀ k, U k → capP (b + 1) (b + 1 + 1) k ∨ W2.heap.size ≤ k) → (∀ k, U k → k < V.heap.size) → b + 3 ≤ V.heap.size → (((∃ v, e = .returned v) ∧ (J (extU U0 b U) (Ac.sp c false s).length V ∨ ∃ j, j < (Ac.sp c false s).length ∧ Jx (extU U0 b U) (j + 1) V)) ∨ (e = .panicked D ∧ Jp (extU U0 b U) V)) →
      ∃ U, (∀ k, U0 k → U k) ∧ (∀ k, U k → U0 k ∨ W.heap.size ≤ k) ∧ (∀ k, U k → k < V.heap.size) ∧ (((∃ v, e = .returned v) ∧ (J U (Ac.sp c false s).length V ∨ ∃ j, j < (Ac.sp c false s).length ∧ Jx U (j + 1) V)) ∨ (e = .panicked D ∧ Jp U V)) :=
    fun e V U h1 h2 h3 h4 => ⟨extU U0 b U, fun k h => .inl h, fun k h => by
      rcases h with h | h | h
      · exact .inl h
      · right; omega
      · rcases h1 k h with (h | h) | h <;> (right; omega), fun k h => by
      rcases h with h | h | h
      · have := hU0'.out k h; omega
      · omega
      · exact h2 k h, h4⟩
  have hend' := Lib.hid hend
  have hseq := Lib.hid (parts1_seq (n + 1) s c hc34 hs (b + 1) (b + 1 + 1) W2 hp1 hp2)
  clear k1b k2b hp hp1 hp2 hY hJ hJx hJp hU0 h0 hend hcapE hcap hBW2 hB2 hB1 kb hW2 k1 k2 hW hpl hs
  obtain ⟨ps, hps⟩ : ∃ ps, Ac.sp c false s = ps := ⟨_, rfl⟩
  rw [hps] at hY' hend' hseq hpl' ⊢
  clear hps
  refine calls_of_wpK Tryz.func222 rfl ?_
  simp only [Tryz.ntmps222, List.size_toArray, List.length_cons, List.length_nil, Nat.reduceAdd, Nat.reduceSub, Array.replicate_succ, Array.replicate_zero, List.push_toArray, List.append_toArray, List.nil_append, List.cons_append]
  refine wpK_after ?_
  go_wp2
  try rw [hW1]
  refine wpK_scope (wpK_after ?_)
  go_wp2
  go_step3
  refine wpK_after ?_
  go_wp2_with (go_at_call 223; (with_reducible refine Calls.mono hp'.out ?_); rintro e w3 ⟨rfl, hw3⟩; obtain rfl := hw3.symm)
  refine wpK_block ?_
  refine wpK_range (n := n) (gf := 228) (lb := #[.pointer (some ⟨b + 1, 0, none⟩), .pointer (some ⟨b + 1 + 1, 0, none⟩)]) rfl (enters_of Tryz.func228 (by kernel_rfl) rfl)
    hseq.out (Below.refl _ _) hcapE'.out (fun _ => rfl)
    (fun U j V => J (extU U0 b U) j V ∧ Has V b 168 #[.func (.yield l) #[] #[]] ∧ ¬ U b ∧ b + 3 ≤ V.heap.size)
    (fun c U j V => c = .exit 0 ∧ Jx (extU U0 b U) j V ∧ ¬ U b ∧ b + 3 ≤ V.heap.size) D
    (fun U V => Jp (extU U0 b U) V ∧ ¬ U b ∧ b + 3 ≤ V.heap.size)
    ?i1 ?i2 ?i3 ⟨hJ0.out, kb2.out, fun h => by rcases h with h | h <;> omega, by omega⟩ ?a1 ?assign ?body ?done ?left ?gave
  case i1 =>
    rintro U U' j X Y ⟨h1, h2, h3, h4⟩ ht
    exact ⟨hJ'.out _ _ _ _ _ h1 (ht.ext (fun k hk => by have := hU0'.out k hk; omega) (by omega)), ht.has h3 h2, ht.out h3 (by omega), by have := ht.size; omega⟩
  case i2 =>
    rintro c U U' j X Y ⟨rfl, h1, h3, h4⟩ ht
    exact ⟨rfl, hJx'.out _ _ _ _ _ h1 (ht.ext (fun k hk => by have := hU0'.out k hk; omega) (by omega)), ht.out h3 (by omega), by have := ht.size; omega⟩
  case i3 =>
    rintro U U' X Y ⟨h1, h3, h4⟩ ht
    exact ⟨hJp'.out _ _ _ _ h1 (ht.ext (fun k hk => by have := hU0'.out k hk; omega) (by omega)), ht.out h3 (by omega), by have := ht.size; omega⟩
  case assign =>
    intro l2 x V K hK
    have hK' := Lib.hid hK
    clear hK
    dsimp only [encPt]
    gi_wp2
    exact hK'.out
  case body =>
    rintro l2 U j V hUl ⟨h1, h2, h3, h4⟩ hj
    obtain ⟨p, hpj⟩ : ∃ p, ps[j]?.getD [] = p := ⟨_, rfl⟩
    have hpn : p.length ≤ 1000000 := by
      rw [← hpj, List.getElem?_eq_getElem hj]
      exact hpl'.out _ (List.getElem_mem hj)
    have hpd : ps.getD j [] = p := (List.getD_eq_getElem?_getD).trans hpj
    rw [hpj]
    have x0 := fun (V' : Grown V) => (h2.below V'.below h2.lt).cell 0
    have t1 := Lib.hid (fun (V' : Grown V) => CallsIn.inRound l2 (callsIn_wide (n := n - 1).2 (grow_call V' (show Calls Tryz.prog 139 #[.string ⟨p.toArray⟩] V'.v fun e w' => e = .returned (.string ⟨(trimL p).toArray⟩) ∧ Below V'.v.heap.size V'.v w' from trim_any p V'.v hpn))))
    have hyl := Lib.hid (fun (V' : Grown V) => hY'.out (extU U0 b U) j V'.v (hJ'.out _ _ _ _ _ h1 (.of_below V'.below (fun k h => .inl h) (fun k h => by
      have := V'.below.size
      rcases h with h | h | h
      · have := hU0'.out k h; omega
      · omega
      · have := hUl k h; omega))) hj (fun k h => by
      have := V'.below.size
      rcases h with h | h | h
      · have := hU0'.out k h; omega
      · omega
      · have := hUl k h; omega))
    have h2' := Lib.hid h2
    have h3' := Lib.hid h3
    have hUl' := Lib.hid hUl
    obtain ⟨q, hq⟩ : ∃ q, trimL p = q := ⟨_, rfl⟩
    have hen : encEa ps j = #[.int .i64 (j : Int), .string ⟨q.toArray⟩] := by unfold encEa; rw [hpd, hq]
    rw [hq] at t1
    rw [hen] at hyl
    clear h1 h2 h3 hUl hen hq hpj hpd hpn
    gi_wp2
    refine wpIn_region_grow_tail 4 (by kernel_rfl) (by kernel_rfl) (by kernel_rfl) ?_
    simp only [List.take_succ_cons, List.take_zero, List.drop_succ_cons, List.drop_zero]
    iterate 4 (gi_big_quiet_step ((gi_at_call 139; exact t1.out _)))
    refine wpQuietIn_nil ?_
    intro _ hw'
    obtain ⟨V', hw''⟩ := hw'
    subst hw''
    obtain ⟨fn, tmps, assign, body, hy, hR⟩ := hyl.out V'
    have hR' := Lib.hid (round_any (m' := n - 1) (l' := l2) hR)
    clear hR
    have hbV := Lib.hid V'.below
    have hj' := Lib.hid hj
    have hJr : ∀ {V3 : World}, KeptU (extU U0 b U) V'.v V3 → KeptU U V V3 := fun h => (KeptU.below V'.below hUl'.out).trans (h.mono (fun k hk => .inr (.inr hk)))
    have hbr : ∀ {V3 : World}, KeptU (extU U0 b U) V'.v V3 → Has V3 b 168 #[.func (.yield l) #[] #[]] ∧ b + 3 ≤ V3.heap.size := fun h => ⟨h.has (.inr (.inl rfl)) (h2'.out.below V'.below h2'.out.lt), by have := h.size; have := V'.below.size; omega⟩
    gi_wp2
    refine hR'.out.mono ?_
    rintro e V3 ⟨hk3, (⟨rfl, hj3⟩ | ⟨rfl, hj3⟩ | ⟨rfl, hj3⟩)⟩
    · have q1 := Lib.hid (hJr hk3)
      have q2 := Lib.hid (hbr hk3)
      have hj3' := Lib.hid hj3
      clear hk3 hj3 hJr hbr
      gi_wp2
      exact ⟨q1.out, hj3'.out, q2.out.1, h3'.out, q2.out.2⟩
    · have q1 := Lib.hid (hJr hk3)
      have q2 := Lib.hid (hbr hk3)
      have hj3' := Lib.hid hj3
      clear hk3 hj3 hJr hbr
      gi_wp2
      exact ⟨q1.out, rfl, hj3'.out, h3'.out, q2.out.2⟩
    · exact ⟨rfl, rfl, hJr hk3, hj3, h3'.out, (hbr hk3).2⟩
  case done =>
    rintro U d V hd hUd hU1 hU2 hUl ⟨h1, h2, h3, h4⟩ hk
    have ht := collected_out hUd hk hUl
    refine ⟨by simp, .inl ⟨_, _, rfl, run_takeDeferred hk, ?_⟩⟩
    refine ⟨.tuple #[], results_none rfl _ _ _, hend'.out _ _ U hU2 ht.lt (by have := ht.size; omega) (.inl ⟨⟨_, rfl⟩, .inl (hJ'.out _ _ _ _ _ h1 (ht.ext (fun k hk => by have := hU0'.out k hk; omega) (by omega)))⟩)⟩
  case left =>
    rintro c U d j V hd hUd hU1 hU2 hUl hj ⟨rfl, h1, h3, h4⟩ hk
    have ht := collected_out hUd hk hUl
    refine wpK_of (wp_exit ?_)
    refine ⟨by simp, .inl ⟨_, _, rfl, run_takeDeferred hk, ?_⟩⟩
    refine ⟨.tuple #[], results_none rfl _ _ _, hend'.out _ _ U hU2 ht.lt (by have := ht.size; omega) (.inl ⟨⟨_, rfl⟩, .inr ⟨j, hj, hJx'.out _ _ _ _ _ h1 (ht.ext (fun k hk => by have := hU0'.out k hk; omega) (by omega))⟩⟩)⟩
  case gave =>
    rintro U d V hd hUd hU2 hUl ⟨h1, h3, h4⟩ hk
    have ht := collected_out hUd hk hUl
    refine ⟨by simp, .inl ⟨_, _, rfl, run_takeDeferred hk, ?_⟩⟩
    exact hend'.out _ _ U hU2 ht.lt (by have := ht.size; omega) (.inr ⟨rfl, hJp'.out _ _ _ _ h1 (ht.ext (fun k hk => by have := hU0'.out k hk; omega) (by omega))⟩)
end Go.Proofs.YtbmemkbfignlaaaGreatDoor
