import Derived.Test.YtabgpnieekcdhaaDoorAnT
import Derived.Test.YtabgpnieekcdhaaDoorAnO
namespace Go.Proofs.YtabgpnieekcdhaaDoor
open Go.RowKit Go.Shelf
attribute [local go_sem] Oper.semAt_some

/-! ## Any byte that comes, where nothing is wrong -/
/-- A reader's cells, by how it stands. -/
abbrev rdS (cl cb cf : Int) (st : Hs) (v : Value) : Array Value := rdX cl cb cf ⟨st.first.toArray⟩ v ⟨st.line.toArray⟩ (st.n : Int) st.cr st.done 0
theorem HdsO.shape {W : World} {n0 : Nat} {v : Value} {l : List PairL} (h : HdsO W n0 v l) : ∃ A c, v = .slice A l.length c ∧ Prs W A l ∧ (A = none → c = 0) := by
  obtain ⟨A, c, rfl, hp⟩ := h.prs
  refine ⟨A, c, rfl, hp, fun hA => ?_⟩
  subst hA
  rcases h.2 with ⟨h, _⟩ | ⟨g, cap, cur, h, _⟩
  · injection h
  · injection h with h; cases h
theorem ne_isEmpty {l : List UInt8} (h : l ≠ []) : (⟨l.toArray⟩ : ByteArray).toList.isEmpty = false := by
  cases l with
  | nil => exact absurd rfl h
  | cons b r => simp
def ComesR (cl cb cf : Int) (st st1 : Hs) (b : UInt8) : Prop := ∀ (w : World) (v : Value) (n0 : Nat), HdsO w n0 v st.fields → n0 ≤ w.heap.size →
  Calls Tryd.prog 46 #[.agg (rdS cl cb cf st v), .int .u8 (b.toNat : Int)] w fun e w' => ∃ v1, e = .returned (.agg (rdS cl cb cf st1 v1)) ∧ HdsO w' n0 v1 st1.fields ∧ Below w.heap.size w w'
theorem comes_any {cl cb cf : Int} (hcl : cl = 8192) (hcb : cb = 65536) (hcf : cf = 256) {st fin : Hs} {b : UInt8} {r : List UInt8} (h : Run st (b :: r) fin) (hl : st.line.length ≤ 8192) :
    ∃ st1, Run st1 r fin ∧ st1.n = st.n + 1 ∧ st1.line.length ≤ 8192 ∧ st.done = false ∧ ComesR cl cb cf st st1 b := by
  cases h with
  | put _ _ _ _ hv hc hd hll hn hr =>
    refine ⟨_, hr, rfl, by simp; omega, hd, fun w v n0 hv0 hn0 => ?_⟩
    obtain ⟨A, c, rfl, _, _⟩ := hv0.shape
    have h := comes_put ⟨st.first.toArray⟩ st.line b A st.fields.length c st.n cl cb cf w hn (by omega) hv (by omega) (by omega)
    simp only [rdS, hc, hd]
    refine h.mono fun e w' ⟨he, hb⟩ => ⟨_, ?_, hv0.below hb, hb⟩
    rw [he]
    simp
  | cr _ _ _ hc hd hn hr =>
    refine ⟨_, hr, rfl, hl, hd, fun w v n0 hv0 hn0 => ?_⟩
    obtain ⟨A, c, rfl, _, _⟩ := hv0.shape
    have h := comes_cr ⟨st.first.toArray⟩ ⟨st.line.toArray⟩ A st.fields.length c st.n cl cb cf w hn (by omega)
    simp only [rdS, hc, hd]
    refine h.mono fun e w' ⟨he, hb⟩ => ⟨_, ?_, hv0.below hb, hb⟩
    rw [he]
    simp
  | lf _ u _ _ hc hd hn he hr =>
    cases he with
    | last h1 h2 =>
      simp only at h1 h2
      refine ⟨_, hr, rfl, by simp, hd, fun w v n0 hv0 hn0 => ?_⟩
      obtain ⟨A, c, rfl, _, _⟩ := hv0.shape
      have h := comes_lfA ⟨st.first.toArray⟩ ⟨#[]⟩ ⟨st.first.toArray⟩ ⟨#[]⟩ A st.fields.length c st.n cl cb cf true w hn (by omega) (fun W _ => ends_last ⟨st.first.toArray⟩ A st.fields.length c ((st.n : Int) + 1) cl cb cf W (ne_isEmpty h2))
      simp only [rdS, hc, hd, h1]
      refine h.mono fun e w' ⟨he, hb⟩ => ⟨_, ?_, hv0.below hb, hb⟩
      rw [he]
      simp
    | head b0 r0 h1 h2 h9 h32 =>
      simp only at h1 h2
      refine ⟨_, hr, rfl, by simp, hd, fun w v n0 hv0 hn0 => ?_⟩
      obtain ⟨A, c, rfl, _, _⟩ := hv0.shape
      have h := comes_lfA ⟨#[]⟩ ⟨(b0 :: r0).toArray⟩ ⟨(b0 :: r0).toArray⟩ ⟨#[]⟩ A st.fields.length c st.n cl cb cf false w hn (by omega) (fun W _ => ends_head b0 r0 A st.fields.length c ((st.n : Int) + 1) cl cb cf W h9 h32)
      simp only [rdS, hc, hd, h1, h2]
      refine h.mono fun e w' ⟨he, hb⟩ => ⟨_, ?_, hv0.below hb, hb⟩
      rw [he]
      simp
    | field a z h1 h2 h3 h58 ht =>
      simp only at h1 h2 h3
      refine ⟨_, hr, rfl, by simp, hd, fun w v n0 hv0 hn0 => ?_⟩
      obtain ⟨A, c, rfl, hp, hA⟩ := hv0.shape
      have hal : a.length + z.length + 1 ≤ 8192 := by rw [h1] at hl; simp at hl; omega
      have h := comes_lfB ⟨st.first.toArray⟩ ⟨(a ++ 58 :: z).toArray⟩ ⟨st.first.toArray⟩ ⟨#[]⟩ A st.fields.length c st.n cl cb cf false (st.fields ++ [(lowerL a, trimL z)]) w hn (by omega)
        (fun W hW => ends_field ⟨st.first.toArray⟩ a z st.fields A c a.length ((st.n : Int) + 1) cl cb cf W (ne_isEmpty h2) h58 ht rfl (by omega) (by omega) (by omega) hA (hp.below hW) _ rfl)
      simp only [rdS, hc, hd, h1]
      refine h.mono fun e w' ⟨v1, he, ho, hb⟩ => ⟨v1, ?_, HdsO.low ho hn0, hb⟩
      rw [he]
      simp
end Go.Proofs.YtabgpnieekcdhaaDoor
namespace Go.Proofs.YtabgpnieekcdhaaDoor
open Go.RowKit Go.Shelf
attribute [local go_sem] Oper.semAt_some

/-! ## Write, of a head's bytes and what stands behind them -/
set_option maxRecDepth 100000 in
set_option maxHeartbeats 8000000 in
theorem write_any {cl cb cf : Int} (hcl : cl = 8192) (hcb : cb = 65536) (hcf : cf = 256) (bs hd : List UInt8) (fin : Hs) (hrun : Run ⟨[], [], [], 0, false, false⟩ hd fin) (hfd : fin.done = true) (hpre : bs.take hd.length = hd) (hlen : bs.length ≤ 1000000) (blk off c0 : Nat) (w : World) (hlt : blk < w.heap.size)
    (hc : ∀ (j : Nat) (h : j < bs.length), w.cell? ⟨blk, off + j, none⟩ = some (.int .u8 (bs[j].toNat : Int))) :
    Calls Tryd.prog 37 #[.agg (rdX cl cb cf ⟨#[]⟩ (.slice none 0 0) ⟨#[]⟩ 0 false false 0), .slice (some ⟨blk, off, none⟩) bs.length c0] w fun e w' => ∃ v, e = .returned (.tuple #[.agg (rdS cl cb cf fin v), .int .i64 (hd.length : Int)]) ∧ HdsO w' w.heap.size v fin.fields ∧ Below w.heap.size w w' := by
  obtain ⟨k, hk⟩ : ∃ k, w.heap.size = k := ⟨_, rfl⟩
  obtain ⟨p, hp⟩ : ∃ p, hd.length = p := ⟨_, rfl⟩
  obtain ⟨N, hN⟩ : ∃ N, bs.length = N := ⟨_, rfl⟩
  have hpN : p ≤ N := by
    have := congrArg List.length hpre
    rw [List.length_take] at this
    omega
  obtain ⟨w1, hw1⟩ : ∃ w1, w.alloc (.cells (rdX cl cb cf ⟨#[]⟩ (.slice none 0 0) ⟨#[]⟩ 0 false false 0) 77) = w1 := ⟨_, rfl⟩
  have hB1 : Below w.heap.size w w1 := by rw [← hw1]; exact (Below.refl _ _).alloc (Nat.le_refl _) _
  have z0 : Has w1 k 77 (rdX cl cb cf ⟨#[]⟩ (.slice none 0 0) ⟨#[]⟩ 0 false false 0) := by rw [← hw1, ← hk]; exact Has.new _ _ _
  have hz1 : w1.heap.size = k + 1 := by rw [← hw1, World.size_alloc, hk]
  obtain ⟨w2, hw2⟩ : ∃ w2, w1.alloc (.cells rdZ 77) = w2 := ⟨_, rfl⟩
  have hB2 : Hid (Below k w w2) := Lib.hid (by rw [← hw2, ← hk]; exact hB1.alloc (by omega) _)
  have x20 : Hid (Has w2 k 77 (rdS cl cb cf ⟨[], [], [], 0, false, false⟩ (.slice none 0 0))) := Lib.hid (by rw [← hw2]; exact z0.alloc _)
  have x21 : Hid (Has w2 (k + 1) 77 rdZ) := Lib.hid (by rw [← hw2, ← hz1]; exact Has.new _ _ _)
  have hz2 : w2.heap.size = k + 2 := by rw [← hw2, World.size_alloc, hz1]
  have hc' : Hid (∀ W, Below k w W → ∀ (j : Nat) (h : j < p), W.cell? ⟨blk, off + j, none⟩ = some (.int .u8 ((hd[j]'(by omega)).toNat : Int))) := Lib.hid (fun W hW j h => by
    rw [hW.cell (p := ⟨blk, off + j, none⟩) (by show blk < k; omega), hc j (by omega)]
    have : hd[j]'(by omega) = bs[j]'(by omega) := by
      have h2 : (bs.take hd.length)[j]? = hd[j]? := by rw [hpre]
      rw [List.getElem?_take_of_lt (by omega), List.getElem?_eq_getElem (by omega), List.getElem?_eq_getElem (by omega)] at h2
      exact (Option.some.inj h2).symm
    rw [this])
  have hst := Lib.hid hrun
  have hcl' := Lib.hid hcl
  have hcb' := Lib.hid hcb
  have hcf' := Lib.hid hcf
  have hfd' := Lib.hid hfd
  rw [hN] at hlen ⊢
  rw [hp]
  have hlenI : (N : Int) ≤ 1000000 := by omega
  clear hB1 z0 hrun hcl hcb hcf hfd hc hpre
  go_enter Tryd.func37, Tryd.ntmps37
  go_wp2
  go_loopw [6] (fun x W => ∃ (i : Nat) (st : Hs) (v : Value), i ≤ p ∧ x = .int .i64 (i : Int) ∧ Hid (Run st (hd.drop i) fin) ∧ Hid (st.n = i) ∧ Hid (st.line.length ≤ 8192) ∧ Hid (Has W k 77 (rdS cl cb cf st v)) ∧ Hid (Has W (k + 1) 77 rdZ) ∧ Hid (HdsO W (k + 2) v st.fields) ∧ Hid (Below k w W) ∧ k + 2 ≤ W.heap.size) (fun x _ => p + 1 - (intOf x).toNat)
  case atStart => exact ⟨0, _, _, Nat.zero_le _, rfl, Lib.hid (by rw [List.drop_zero]; exact hst.out), Lib.hid rfl, Lib.hid (Nat.zero_le _), x20, x21, Lib.hid (hdsO_nil _ _), hB2, by omega⟩
  case round =>
    obtain ⟨i, st, v, hi, rfl, hr, hn, hl, hx, hx1, ho, hb, hz⟩ := hrel
    obtain ⟨A, c, rfl, -, -⟩ := ho.out.shape
    by_cases hlt2 : i < p
    · have hiN : (i : Int) < (N : Int) := by omega
      have hiN2 : i < N := by omega
      have hil : i < hd.length := by omega
      have hdrop : hd.drop i = hd[i] :: hd.drop (i + 1) := List.drop_eq_getElem_cons hil
      obtain ⟨st1, hr1, hn1, hl1, hdn, hC⟩ := comes_any hcl'.out hcb'.out hcf'.out (hdrop ▸ hr.out) hl.out
      have hcell : wr.drew.cell? ⟨blk, off + i, none⟩ = some (.int .u8 ((hd[i]).toNat : Int)) := hc'.out wr.drew hb.out.drew i hlt2
      have hx0 : Has wr k 77 (rdX cl cb cf ⟨st.first.toArray⟩ (.slice A st.fields.length c) ⟨st.line.toArray⟩ (st.n : Int) st.cr false 0) := by have h := hx.out; simp only [rdS, hdn] at h; exact h
      have hx0d : Hid (Has wr.drew k 77 _) := Lib.hid hx0.drew
      have hx1d : Hid (Has wr.drew (k + 1) 77 rdZ) := Lib.hid hx1.out.drew
      have hcm := Lib.hid (hC wr.drew (.slice A st.fields.length c) (k + 2) (ho.out.below (Below.refl _ _).drew) hz)
      simp only [rdS, hdn] at hcm
      have hr1' := Lib.hid hr1
      have hn1' := Lib.hid (show st1.n = i + 1 by rw [hn1, hn.out])
      have hl1' := Lib.hid hl1
      have hbd := Lib.hid hb.out.drew
      generalize hd[i] = bb at *
      generalize (⟨st.first.toArray⟩ : ByteArray) = F at *
      generalize (⟨st.line.toArray⟩ : ByteArray) = L at *
      generalize st.fields.length = fl at *
      generalize (st.n : Int) = nI at *
      generalize st.cr = CR at *
      have c8 := hx0.cell 8
      have c9 := hx0.cell 9
      have ld0 := hx0d.out.cell 0
      have ld1 := hx0d.out.cell 1
      have ld2 := hx0d.out.cell 2
      have ld3 := hx0d.out.cell 3
      have ld4 := hx0d.out.cell 4
      have ld5 := hx0d.out.cell 5
      have ld6 := hx0d.out.cell 6
      have ld7 := hx0d.out.cell 7
      have ld8 := hx0d.out.cell 8
      have ld9 := hx0d.out.cell 9
      clear hC hr hn hl hx hx1 ho hx0 hdrop hr1 hn1 hl1 hdn hc'
      go_upto_region 6 with (fail)
      go_region_law (first
        | (go_simp
           go_at_call 46
           (with_reducible refine Calls.mono hcm.out ?_)
           rintro e w5 ⟨v1, rfl, ho5, hb5⟩
           obtain ⟨A1, c1, hv1, -, -⟩ := ho5.shape
           subst hv1
           have hx5 := hx0d.out.below hb5 hx0d.out.lt
           have g0 := hx5.cell 0
           have u0 := hx5.free 0
           have g1 := hx5.cell 1
           have u1 := hx5.free 1
           have g2 := hx5.cell 2
           have u2 := hx5.free 2
           have g3 := hx5.cell 3
           have u3 := hx5.free 3
           have g4 := hx5.cell 4
           have u4 := hx5.free 4
           have g5 := hx5.cell 5
           have u5 := hx5.free 5
           have g6 := hx5.cell 6
           have u6 := hx5.free 6
           have g7 := hx5.cell 7
           have u7 := hx5.free 7
           have g8 := hx5.cell 8
           have u8 := hx5.free 8
           have g9 := hx5.cell 9
           have u9 := hx5.free 9
           have hx5' := Lib.hid hx5
           have hx15' := Lib.hid (hx1d.out.below hb5 hx1d.out.lt)
           have ho5' := Lib.hid ho5
           have hz5 : k + 2 ≤ w5.heap.size := Nat.le_trans hz hb5.size
           have hb5' := Lib.hid (hbd.out.trans (hb5.mono (show k ≤ wr.heap.size by omega)))
           clear hx5 ho5 hb5))
      all_goals (
        go_wp2
        have hs1 := s10_has (k := k) hx5'.out rfl (.int .i64 cl) (.int .i64 cb) (.int .i64 cf) (.string ⟨st1.first.toArray⟩) (.slice A1 st1.fields.length c1) (.string ⟨st1.line.toArray⟩) (.int .i64 (st1.n : Int)) (.bool st1.cr) (.bool st1.done) (.int .i64 0)
        have hs2 := s10_below (k := k) hb5'.out (Nat.le_refl _) (.int .i64 cl) (.int .i64 cb) (.int .i64 cf) (.string ⟨st1.first.toArray⟩) (.slice A1 st1.fields.length c1) (.string ⟨st1.line.toArray⟩) (.int .i64 (st1.n : Int)) (.bool st1.cr) (.bool st1.done) (.int .i64 0)
        have hs3 := ho5'.out.kept (W' := S10 w5 k (.int .i64 cl) (.int .i64 cb) (.int .i64 cf) (.string ⟨st1.first.toArray⟩) (.slice A1 st1.fields.length c1) (.string ⟨st1.line.toArray⟩) (.int .i64 (st1.n : Int)) (.bool st1.cr) (.bool st1.done) (.int .i64 0)) (fun g hg => s10_kept _ _ _ _ _ _ _ _ _ _ (by have := (ho5'.out.own g hg).1; omega))
        have hs4 : Has (S10 w5 k (.int .i64 cl) (.int .i64 cb) (.int .i64 cf) (.string ⟨st1.first.toArray⟩) (.slice A1 st1.fields.length c1) (.string ⟨st1.line.toArray⟩) (.int .i64 (st1.n : Int)) (.bool st1.cr) (.bool st1.done) (.int .i64 0)) (k + 1) 77 rdZ := (s10_kept _ _ _ _ _ _ _ _ _ _ (by omega)).trans hx15'.out
        exact ⟨⟨i + 1, st1, .slice A1 st1.fields.length c1, by omega, by go_num, hr1', hn1', hl1', Lib.hid hs1, Lib.hid hs4, Lib.hid hs3, Lib.hid hs2, by simpa [World.setCell] using hz5⟩, by simp [intOf]; omega⟩)
    · obtain rfl : i = p := by omega
      have hre : st = fin := by
        have h := hr.out
        rw [List.drop_of_length_le (by omega)] at h
        cases h
        rfl
      subst hre
      have hx0 : Has wr k 77 (rdX cl cb cf ⟨st.first.toArray⟩ (.slice A st.fields.length c) ⟨st.line.toArray⟩ (st.n : Int) st.cr true 0) := by have h := hx.out; simp only [rdS, hfd'.out] at h; exact h
      have hR := Lib.hid (show (rdS cl cb cf st (.slice A st.fields.length c)) = (rdX cl cb cf ⟨st.first.toArray⟩ (.slice A st.fields.length c) ⟨st.line.toArray⟩ (st.n : Int) st.cr true 0) by simp only [rdS, hfd'.out])
      have hx1' := Lib.hid hx1.out
      have ho' := Lib.hid ho.out
      clear hr hx hn hl hfd' hx1 ho
      generalize hF : (⟨st.first.toArray⟩ : ByteArray) = F at hx0 hR
      generalize hL : (⟨st.line.toArray⟩ : ByteArray) = L at hx0 hR
      generalize hfl : st.fields.length = fl at *
      generalize hnI : (st.n : Int) = nI at hx0 hR
      generalize hCR : st.cr = CR at hx0 hR
      have hx0' := Lib.hid hx0
      clear hF hL hnI hCR
      have e0 := hx0.cell 0
      have g0 := hx1'.out.cell 0
      have u0 := hx1'.out.free 0
      have e1 := hx0.cell 1
      have g1 := hx1'.out.cell 1
      have u1 := hx1'.out.free 1
      have e2 := hx0.cell 2
      have g2 := hx1'.out.cell 2
      have u2 := hx1'.out.free 2
      have e3 := hx0.cell 3
      have g3 := hx1'.out.cell 3
      have u3 := hx1'.out.free 3
      have e4 := hx0.cell 4
      have g4 := hx1'.out.cell 4
      have u4 := hx1'.out.free 4
      have e5 := hx0.cell 5
      have g5 := hx1'.out.cell 5
      have u5 := hx1'.out.free 5
      have e6 := hx0.cell 6
      have g6 := hx1'.out.cell 6
      have u6 := hx1'.out.free 6
      have e7 := hx0.cell 7
      have g7 := hx1'.out.cell 7
      have u7 := hx1'.out.free 7
      have e8 := hx0.cell 8
      have g8 := hx1'.out.cell 8
      have u8 := hx1'.out.free 8
      have e9 := hx0.cell 9
      have g9 := hx1'.out.cell 9
      have u9 := hx1'.out.free 9
      clear hx0
      by_cases hfull : i < N
      · have hfI : (i : Int) < (N : Int) := by omega
        go_wp2
        have kf := s10_has (k := k + 1) hx1'.out rfl (.int .i64 cl) (.int .i64 cb) (.int .i64 cf) (.string F) (.slice A fl c) (.string L) (.int .i64 nI) (.bool CR) (.bool true) (.int .i64 0)
        have y0 := kf.cell 0
        have y1 := kf.cell 1
        have y2 := kf.cell 2
        have y3 := kf.cell 3
        have y4 := kf.cell 4
        have y5 := kf.cell 5
        have y6 := kf.cell 6
        have y7 := kf.cell 7
        have y8 := kf.cell 8
        have y9 := kf.cell 9
        simp at y0 y1 y2 y3 y4 y5 y6 y7 y8 y9
        refine bodyPost_ret (v := .tuple #[.agg (rdX cl cb cf F (.slice A fl c) L nI CR true 0), .int .i64 (i : Int)]) (by simp [results, Tryd.results37, go_sem, y0, y1, y2, y3, y4, y5, y6, y7, y8, y9]) rfl ?_
        have hBk := s10_below (k := k + 1) hb.out (by omega) (.int .i64 cl) (.int .i64 cb) (.int .i64 cf) (.string F) (.slice A fl c) (.string L) (.int .i64 nI) (.bool CR) (.bool true) (.int .i64 0)
        have hHk := ho'.out.kept (W' := S10 wr (k + 1) (.int .i64 cl) (.int .i64 cb) (.int .i64 cf) (.string F) (.slice A fl c) (.string L) (.int .i64 nI) (.bool CR) (.bool true) (.int .i64 0)) (fun g hg => s10_kept _ _ _ _ _ _ _ _ _ _ (by have := (ho'.out.own g hg).1; omega))
        refine ⟨.slice A fl c, ?_, HdsO.low hHk (by omega), by first | exact hBk | (rw [hk]; exact hBk)⟩
        rw [hR.out]
      · obtain rfl : i = N := by omega
        go_wp2
        have kf := s10_has (k := k + 1) hx1'.out rfl (.int .i64 cl) (.int .i64 cb) (.int .i64 cf) (.string F) (.slice A fl c) (.string L) (.int .i64 nI) (.bool CR) (.bool true) (.int .i64 0)
        have y0 := kf.cell 0
        have y1 := kf.cell 1
        have y2 := kf.cell 2
        have y3 := kf.cell 3
        have y4 := kf.cell 4
        have y5 := kf.cell 5
        have y6 := kf.cell 6
        have y7 := kf.cell 7
        have y8 := kf.cell 8
        have y9 := kf.cell 9
        simp at y0 y1 y2 y3 y4 y5 y6 y7 y8 y9
        refine bodyPost_ret (v := .tuple #[.agg (rdX cl cb cf F (.slice A fl c) L nI CR true 0), .int .i64 (i : Int)]) (by simp [results, Tryd.results37, go_sem, y0, y1, y2, y3, y4, y5, y6, y7, y8, y9]) rfl ?_
        have hBk := s10_below (k := k + 1) hb.out (by omega) (.int .i64 cl) (.int .i64 cb) (.int .i64 cf) (.string F) (.slice A fl c) (.string L) (.int .i64 nI) (.bool CR) (.bool true) (.int .i64 0)
        have hHk := ho'.out.kept (W' := S10 wr (k + 1) (.int .i64 cl) (.int .i64 cb) (.int .i64 cf) (.string F) (.slice A fl c) (.string L) (.int .i64 nI) (.bool CR) (.bool true) (.int .i64 0)) (fun g hg => s10_kept _ _ _ _ _ _ _ _ _ _ (by have := (ho'.out.own g hg).1; omega))
        refine ⟨.slice A fl c, ?_, HdsO.low hHk (by omega), by first | exact hBk | (rw [hk]; exact hBk)⟩
        rw [hR.out]
end Go.Proofs.YtabgpnieekcdhaaDoor
namespace Go.Proofs.YtabgpnieekcdhaaDoor
open Go.RowKit Go.Shelf
attribute [local go_sem] Oper.semAt_some

/-! ## Caps that may be; Of, of a head's bytes and what stands behind them -/
set_option maxRecDepth 100000 in
theorem caps_yes {cl cb cf : Int} (l1 : (1 : Int) ≤ cl) (l2 : cl ≤ 8192) (b1 : (1 : Int) ≤ cb) (b2 : cb ≤ 65536) (f1 : (0 : Int) ≤ cf) (f2 : cf ≤ 256) (w : World) :
    Calls Tryd.prog 36 #[.agg #[.int .i64 cl, .int .i64 cb, .int .i64 cf]] w fun e w' => e = .returned (.bool true) ∧ Below w.heap.size w w' := by
  have hk := Has.new w 50 #[.int .i64 cl, .int .i64 cb, .int .i64 cf]
  have hal := Lib.hid ((Below.refl w.heap.size w).alloc (Nat.le_refl _) (.cells #[.int .i64 cl, .int .i64 cb, .int .i64 cf] 50))
  obtain ⟨w1, hw1⟩ : ∃ X, w.alloc (.cells #[.int .i64 cl, .int .i64 cb, .int .i64 cf] 50) = X := ⟨_, rfl⟩
  rw [hw1] at hk hal
  have c0 := hk.cell 0
  have c1 := hk.cell 1
  have c2 := hk.cell 2
  clear hk
  go_enter Tryd.func36, Tryd.ntmps36
  go_wp2
  go_ret
  exact ⟨rfl, hal.out⟩
theorem kept2 {W : World} {k : Nat} (a0 a1 : Value) {g : Nat} (h : g ≠ k) : ((W.setCell ⟨k, 0, none⟩ a0).setCell ⟨k, 1, none⟩ a1).heap[g]? = W.heap[g]? := by
  simp [World.setCell, Array.getElem?_modify, Ne.symm h]
set_option maxRecDepth 100000 in
set_option maxHeartbeats 8000000 in
theorem of_any {cl cb cf : Int} (hcl : cl = 8192) (hcb : cb = 65536) (hcf : cf = 256) (bs hd : List UInt8) (fin : Hs) (hrun : Run ⟨[], [], [], 0, false, false⟩ hd fin) (hfd : fin.done = true) (hpre : bs.take hd.length = hd) (hlen : bs.length ≤ 1000000) (blk off c0 : Nat) (w : World) (hlt : blk < w.heap.size)
    (hc : ∀ (j : Nat) (h : j < bs.length), w.cell? ⟨blk, off + j, none⟩ = some (.int .u8 (bs[j].toNat : Int))) :
    Calls Tryd.prog 22 #[.agg #[.int .i64 cl, .int .i64 cb, .int .i64 cf], .slice (some ⟨blk, off, none⟩) bs.length c0] w fun e w' => ∃ v, e = .returned (.tuple #[.agg #[.string ⟨fin.first.toArray⟩, v], .int .i64 (hd.length : Int), .int .i64 0]) ∧ HdsO w' w.heap.size v fin.fields ∧ Below w.heap.size w w' := by
  obtain ⟨k, hk⟩ : ∃ k, w.heap.size = k := ⟨_, rfl⟩
  have hcaps := Lib.hid (fun W => caps_yes (cl := cl) (cb := cb) (cf := cf) (by omega) (by omega) (by omega) (by omega) (by omega) (by omega) W)
  have hwr := Lib.hid (fun W (hW : Below w.heap.size w W) => write_any hcl hcb hcf bs hd fin hrun hfd hpre hlen blk off c0 W (Nat.lt_of_lt_of_le hlt hW.size) (fun j h => (hW.cell (p := ⟨blk, off + j, none⟩) hlt).trans (hc j h)))
  obtain ⟨w1, hw1⟩ : ∃ w1, w.alloc (.cells #[.int .i64 cl, .int .i64 cb, .int .i64 cf] 50) = w1 := ⟨_, rfl⟩
  have hB1 : Below w.heap.size w w1 := by rw [← hw1]; exact (Below.refl _ _).alloc (Nat.le_refl _) _
  have z0 : Has w1 k 50 #[.int .i64 cl, .int .i64 cb, .int .i64 cf] := by rw [← hw1, ← hk]; exact Has.new _ _ _
  have hz1 : w1.heap.size = k + 1 := by rw [← hw1, World.size_alloc, hk]
  obtain ⟨w2, hw2⟩ : ∃ w2, w1.alloc (.cells #[.string ⟨#[]⟩, .slice none 0 0] 53) = w2 := ⟨_, rfl⟩
  have hB2 : Hid (Below w.heap.size w w2) := Lib.hid (by rw [← hw2]; exact hB1.alloc (by omega) _)
  have x20 : Hid (Has w2 k 50 #[.int .i64 cl, .int .i64 cb, .int .i64 cf]) := Lib.hid (by rw [← hw2]; exact z0.alloc _)
  have x21 : Hid (Has w2 (k + 1) 53 #[.string ⟨#[]⟩, .slice none 0 0]) := Lib.hid (by rw [← hw2, ← hz1]; exact Has.new _ _ _)
  have hz2 : w2.heap.size = k + 2 := by rw [← hw2, World.size_alloc, hz1]
  have c0_ := x20.out.cell 0
  have c1_ := x20.out.cell 1
  have c2_ := x20.out.cell 2
  obtain ⟨N, hN⟩ : ∃ N, bs.length = N := ⟨_, rfl⟩
  obtain ⟨p, hp⟩ : ∃ p, hd.length = p := ⟨_, rfl⟩
  rw [hN, hp] at hwr
  rw [hN, hp]
  simp only [rdS, hfd] at hwr
  clear hB1 z0 hcl hcb hcf hrun hpre hlen hc hlt hN hp hfd
  go_enter Tryd.func22, Tryd.ntmps22
  go_upto_region 4 with (first
    | (go_at_call 36; (with_reducible refine Calls.mono (hcaps.out _) ?_); rintro e w3 ⟨rfl, hb3⟩; have y0 := x20.out.below hb3 x20.out.lt; have d0 := y0.cell 0; have d1 := y0.cell 1; have d2 := y0.cell 2; have y1 := Lib.hid (x21.out.below hb3 x21.out.lt); have hb3' := Lib.hid (below_on hB2.out hb3); have hz3 : k + 2 ≤ w3.heap.size := (by have := hb3.size; omega); clear hb3 y0)
    | (go_at_call 37; (with_reducible refine Calls.mono (hwr.out _ hb3'.out) ?_); rintro e w4 ⟨v4, rfl, ho4, hb4⟩; obtain ⟨A4, c4, hv4, -, -⟩ := ho4.shape; subst hv4; have y2 := Lib.hid (y1.out.below hb4 y1.out.lt); have ho4' := Lib.hid (HdsO.low ho4 hz3); have hb4' := Lib.hid (below_on hb3'.out hb4); have hz4 : k + 2 ≤ w4.heap.size := Nat.le_trans hz3 hb4.size; clear ho4 hb4))
  obtain ⟨fl, hfl⟩ : ∃ fl, fin.fields.length = fl := ⟨_, rfl⟩
  obtain ⟨F, hF⟩ : ∃ F : ByteArray, ⟨fin.first.toArray⟩ = F := ⟨_, rfl⟩
  obtain ⟨L, hL⟩ : ∃ L : ByteArray, ⟨fin.line.toArray⟩ = L := ⟨_, rfl⟩
  rw [hfl] at ho4' ⊢
  rw [hF, hL]
  obtain ⟨nI, hnI⟩ : ∃ nI : Int, (fin.n : Int) = nI := ⟨_, rfl⟩
  obtain ⟨CR, hCR⟩ : ∃ CR, fin.cr = CR := ⟨_, rfl⟩
  rw [hnI, hCR]
  obtain ⟨n4, hn4⟩ : ∃ n4, w4.heap.size = n4 := ⟨_, rfl⟩
  rw [hn4]
  have hx5 := Has.new w4 77 (rdX cl cb cf F (.slice A4 fl c4) L nI CR true 0)
  have hx1 := y2.out.alloc (.cells (rdX cl cb cf F (.slice A4 fl c4) L nI CR true 0) 77)
  have hb5 := hb4'.out.alloc (by have := hb4'.out.size; exact this) (.cells (rdX cl cb cf F (.slice A4 fl c4) L nI CR true 0) 77)
  have ho5 := ho4'.out.below ((Below.refl w4.heap.size w4).alloc (Nat.le_refl _) (.cells (rdX cl cb cf F (.slice A4 fl c4) L nI CR true 0) 77))
  rw [hn4] at hx5
  obtain ⟨w5, hw5⟩ : ∃ w5, w4.alloc (.cells (rdX cl cb cf F (.slice A4 fl c4) L nI CR true 0) 77) = w5 := ⟨_, rfl⟩
  rw [hw5] at hx5 hx1 hb5 ho5 ⊢
  have e3 := hx5.cell 3
  have e4 := hx5.cell 4
  have e8 := hx5.cell 8
  have e9 := hx5.cell 9
  have g0 := hx1.cell 0
  have g1 := hx1.cell 1
  have u0 := hx1.free 0
  have u1 := hx1.free 1
  have hx1' := Lib.hid hx1
  have hb5' := Lib.hid hb5
  have ho5' := Lib.hid ho5
  clear hx5 hx1 hb5 ho5 hw5 hwr hcaps
  go_wp2
  have kf := (hx1'.out.put 0 (.string F)).put 1 (.slice A4 fl c4)
  have y0 := kf.cell 0
  have y1 := kf.cell 1
  simp at y0 y1
  refine bodyPost_ret (v := .tuple #[.agg #[.string F, .slice A4 fl c4], .int .i64 (p : Int), .int .i64 0]) (by simp [results, Tryd.results22, go_sem, y0, y1]) rfl ?_
  have hBk := (hb5'.out.setCell (p := ⟨k + 1, 0, none⟩) (by show _ ≤ k + 1; omega) (.string F)).setCell (p := ⟨k + 1, 1, none⟩) (by show _ ≤ k + 1; omega) (.slice A4 fl c4)
  have hHk := ho5'.out.kept (W' := (w5.setCell ⟨k + 1, 0, none⟩ (.string F)).setCell ⟨k + 1, 1, none⟩ (.slice A4 fl c4)) (fun g hg => kept2 _ _ (by have := (ho5'.out.own g hg).1; omega))
  exact ⟨.slice A4 fl c4, by rw [hF], HdsO.low hHk (by omega), hBk⟩
end Go.Proofs.YtabgpnieekcdhaaDoor
