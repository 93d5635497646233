import Derived.Test.YtlcfpnegpihicaaGreatDoorPw28
import Derived.Test.YtlcfpnegpihicaaGreatDoorPw23
import Derived.Deep.CutRange
import Derived.Deep.RegionHeld3
import Derived.Test.YtlcfpnegpihicaaGreatDoorPw18
import Derived.Test.YtlcfpnegpihicaaGreatDoorPw12
import Derived.BigQuiet
import Derived.Maps.AppendAt
import Derived.Test.YtlcfpnegpihicaaGreatDoorPw20
import Derived.Test.YtlcfpnegpihicaaGreatDoorPw24
namespace Go.Proofs.YtlcfpnegpihicaaGreatDoor
open Go.RowKit Go.Shelf
attribute [local go_sem] Oper.semAt_some

/-! ## The document's parser: Write -/
def RefWP (l m : Nat) (q : RSt) (r : RfS) (x : List UInt8) (w : World) (e : Ending) (w' : World) : Prop :=
  ∃ A c v, e = .returned (.tuple #[.agg (rpC A (stepR l q x).2.ws.length c l m (stepR l q x).2.line (stepR l q x).2.any (stepR l q x).2.half (rfLines m r (stepR l q x).1).1), v]) ∧
    Rd w' (fun b => w.heap.size ≤ b ∧ b < w'.heap.size) A (stepR l q x).2.ws ∧ Sds w' w.heap.size v (rfLines m r (stepR l q x).1).2 ∧ Below w.heap.size w w'
theorem rfLines_take {m : Nat} {r : RfS} {ls : List (List UInt8 × Bool)} {i : Nat} (hi : i < ls.length) : rfLines m r (ls.take (i + 1)) = ((rfLine m (rfLines m r (ls.take i)).1 ls[i]).1, (rfLines m r (ls.take i)).2 ++ (rfLine m (rfLines m r (ls.take i)).1 ls[i]).2.toList) := by
  rw [List.take_succ_eq_append_getElem hi, rfLines_append]
  simp [rfLines]
theorem rfLines_count (m : Nat) : ∀ (ls : List (List UInt8 × Bool)) (r : RfS), (rfLines m r ls).2.length ≤ ls.length
  | [], _ => Nat.le_refl _
  | x :: t, r => by
    have h := rfLines_count m t (rfLine m r x).1
    have h2 : (rfLine m r x).2.toList.length ≤ 1 := by cases (rfLine m r x).2 <;> simp
    simp only [rfLines, List.length_append, List.length_cons]
    omega
/-- Behind the first lines both stand alike: what a walk asks holds. -/
theorem rel_ok {l m : Nat} {s : PrS} {r : RfS} (hr : RelP s r) (ho : s.ok m l) (hll : s.last.length ≤ 1000000) (hl : l ≤ 65536) (hm : m ≤ 65536) : RfOk m r := by
  refine ⟨by rw [hr.id]; exact hll, by rw [hr.type]; have := ho.k3; omega, by rw [hr.data]; have := ho.d2; omega, fun h1 h2 => ?_⟩
  rw [hr.data]
  exact (hr.some (by rw [← hr.long]; exact h2)).1 h1
theorem rel_take {l m : Nat} {s : PrS} {r : RfS} {ls : List (List UInt8 × Bool)} (hr : RelP s r) (ho : s.ok m l) (hll : s.last.length ≤ 1000000) (hl : l ≤ 65536) (hm : m ≤ 65536) (hls : ∀ y ∈ ls, LineOk l y) (i : Nat) : RfOk m (rfLines m r (ls.take i)).1 := by
  have hsub : ∀ y ∈ ls.take i, LineOk l y := fun y hy => hls y (List.mem_of_mem_take hy)
  have hf : ∀ f ∈ fieldsL (ls.take i), FldOk l f := fun f hf => by
    obtain ⟨y, hy, hyf⟩ := List.mem_filterMap.1 hf
    exact said_ok (hsub y hy) hyf
  exact rel_ok (rel_lines (ls.take i) s r hr ho hsub).1 (stepsP_ok _ s ho hf) (stepsP_last hl _ s hll hf) hl hm
abbrev S11 (W : World) (k : Nat) (v0 v1 v2 v3 v4 v5 v6 v7 v8 v9 v10 : Value) : World := (((((((((((W.setCell ⟨k, 0, none⟩ v0).setCell ⟨k, 1, none⟩ v1).setCell ⟨k, 2, none⟩ v2).setCell ⟨k, 3, none⟩ v3).setCell ⟨k, 4, none⟩ v4).setCell ⟨k, 5, none⟩ v5).setCell ⟨k, 6, none⟩ v6).setCell ⟨k, 7, none⟩ v7).setCell ⟨k, 8, none⟩ v8).setCell ⟨k, 9, none⟩ v9).setCell ⟨k, 10, none⟩ v10)
abbrev SS5 (W : World) (k : Nat) (v0 v1 v2 v3 v4 : Value) : World := (((((W.setCell ⟨k, 0, none⟩ v0).setCell ⟨k, 1, none⟩ v1).setCell ⟨k, 2, none⟩ v2).setCell ⟨k, 3, none⟩ v3).setCell ⟨k, 4, none⟩ v4)
theorem chg_set11 (W : World) (k : Nat) (v0 v1 v2 v3 v4 v5 v6 v7 v8 v9 v10 : Value) : Chg (· = k) W (S11 W k v0 v1 v2 v3 v4 v5 v6 v7 v8 v9 v10) := ((((((((((((Chg.refl (· = k) W).set (k := k) rfl 0 v0).set (k := k) rfl 1 v1).set (k := k) rfl 2 v2).set (k := k) rfl 3 v3).set (k := k) rfl 4 v4).set (k := k) rfl 5 v5).set (k := k) rfl 6 v6).set (k := k) rfl 7 v7).set (k := k) rfl 8 v8).set (k := k) rfl 9 v9).set (k := k) rfl 10 v10)
theorem chg_setS (W : World) (k : Nat) (v0 v1 v2 v3 v4 : Value) : Chg (· = k) W (SS5 W k v0 v1 v2 v3 v4) := ((((((Chg.refl (· = k) W).set (k := k) rfl 0 v0).set (k := k) rfl 1 v1).set (k := k) rfl 2 v2).set (k := k) rfl 3 v3).set (k := k) rfl 4 v4)
theorem has_set11 {W : World} {k : Nat} {t : TypeId} {u0 u1 u2 u3 u4 u5 u6 u7 u8 u9 u10 : Value} (h : Has W k t #[u0, u1, u2, u3, u4, u5, u6, u7, u8, u9, u10]) (v0 v1 v2 v3 v4 v5 v6 v7 v8 v9 v10 : Value) : Has (S11 W k v0 v1 v2 v3 v4 v5 v6 v7 v8 v9 v10) k t #[v0, v1, v2, v3, v4, v5, v6, v7, v8, v9, v10] := by
  simpa using (((((((((((h.put 0 v0).put 1 v1).put 2 v2).put 3 v3).put 4 v4).put 5 v5).put 6 v6).put 7 v7).put 8 v8).put 9 v9).put 10 v10)
theorem has_setS {W : World} {k : Nat} {t : TypeId} {u0 u1 u2 u3 u4 : Value} (h : Has W k t #[u0, u1, u2, u3, u4]) (v0 v1 v2 v3 v4 : Value) : Has (SS5 W k v0 v1 v2 v3 v4) k t #[v0, v1, v2, v3, v4] := by
  simpa using (((((h.put 0 v0).put 1 v1).put 2 v2).put 3 v3).put 4 v4)
/-- How it stands in a round. -/
def RwP (w6 : World) (P n1 l m : Nat) (A : Option Addr) (n c : Nat) (line : List UInt8) (any half : Bool) (rs : RfS × List Sd) (v : Value) (W : World) : Prop :=
  Sds W n1 v rs.2 ∧ Has W P 51 (rpC A n c l m line any half rs.1) ∧ Chg (· = P) w6 W
set_option maxRecDepth 100000 in
set_option maxHeartbeats 4000000 in
theorem refWritePs_any (A B : Option Addr) (n1 c1 n2 c2 l m : Nat) (q : RSt) (r : RfS) (s : PrS) (x : List UInt8) (w : World) (hA : Rd w (· < w.heap.size) A q.ws) (hB : Rd w (· < w.heap.size) B x) (hn1 : n1 = q.ws.length) (hn2 : n2 = x.length) (hl1 : n1 ≤ 1000) (hl2 : n2 ≤ 1000) (hl : l ≤ 65536) (hm : m ≤ 65536) (hll : q.line.length ≤ l + 4) (hok : (absC l q).ok l) (hr : RelP s r) (hs : s.ok m l) (hsl : s.last.length ≤ 1000000) :
    Calls Tryz.prog 16 #[.agg (rpC A n1 c1 l m q.line q.any q.half r), .slice B n2 c2] w (RefWP l m q r x w) := by
  obtain ⟨rn, hrn⟩ : ∃ rn, stepR l q x = rn := ⟨_, rfl⟩
  have hSC := stepR_stepC l q x
  have hLok : ∀ y ∈ rn.1, LineOk l y := fun y hy => by
    obtain ⟨h1, h2, h3, _⟩ := stepC_good hok x y (by rw [hSC, hrn]; exact hy)
    exact ⟨h1, h2, h3⟩
  have hrcnt : rn.1.length ≤ 6000 := by
    have h3 := stepC_count (most := l) (absC l q) x
    rw [hSC, hrn] at h3
    have h4 : (absC l q).ws = q.ws := rfl
    rw [h4] at h3
    simp only at h3
    omega
  have hcntS := fun i => rfLines_count m (rn.1.take i) r
  have hRf := fun i => rel_take hr hs hsl hl hm hLok i
  have hW := fun (W : World) (hb : Below w.heap.size w W) => refWriteL_any A B n1 c1 n2 c2 l q x W ((hA.kept (Kept.below hb (fun _ h => h))).mono (fun b h => Nat.lt_of_lt_of_le h hb.size)) ((hB.kept (Kept.below hb (fun _ h => h))).mono (fun b h => Nat.lt_of_lt_of_le h hb.size)) hn1 hn2 hl1 hl2 hl hll
  unfold RefWL at hW
  unfold RefWP
  rw [hrn] at hW ⊢
  obtain ⟨rl, qn⟩ := rn
  simp only at hLok hrcnt hcntS hRf hW ⊢
  obtain ⟨N, hN⟩ : ∃ N, rl.length = N := ⟨_, rfl⟩
  obtain ⟨ql, hql⟩ : ∃ ql, qn.ws.length = ql := ⟨_, rfl⟩
  have hB1 : Below w.heap.size w ((w.alloc (.cells (rpC A n1 c1 l m q.line q.any q.half r) 51)).alloc (.cells #[.slice none 0 0, .int .i64 0, .string ⟨#[]⟩, .bool false, .bool false, .int .i64 0, .string ⟨#[]⟩, .string ⟨#[]⟩, .string ⟨#[]⟩, .bool false, .bool false] 51)) := ((Below.refl _ _).alloc (Nat.le_refl _) _).alloc (by simp) _
  have kP := (Has.new w 51 (rpC A n1 c1 l m q.line q.any q.half r)).alloc (.cells #[.slice none 0 0, .int .i64 0, .string ⟨#[]⟩, .bool false, .bool false, .int .i64 0, .string ⟨#[]⟩, .string ⟨#[]⟩, .string ⟨#[]⟩, .bool false, .bool false] 51)
  have kR := Has.new (w.alloc (.cells (rpC A n1 c1 l m q.line q.any q.half r) 51)) 51 #[.slice none 0 0, .int .i64 0, .string ⟨#[]⟩, .bool false, .bool false, .int .i64 0, .string ⟨#[]⟩, .string ⟨#[]⟩, .string ⟨#[]⟩, .bool false, .bool false]
  simp only [World.size_alloc] at kR
  unfold rpC at kP kR hB1 ⊢
  obtain ⟨w2, hw2⟩ : ∃ w2, (w.alloc (.cells #[.slice A n1 c1, .int .i64 (l : Int), .string ⟨q.line.toArray⟩, .bool q.any, .bool q.half, .int .i64 (m : Int), .string ⟨r.id.toArray⟩, .string ⟨r.type.toArray⟩, .string ⟨r.data.toArray⟩, .bool r.some, .bool r.long] 51)).alloc (.cells #[.slice none 0 0, .int .i64 0, .string ⟨#[]⟩, .bool false, .bool false, .int .i64 0, .string ⟨#[]⟩, .string ⟨#[]⟩, .string ⟨#[]⟩, .bool false, .bool false] 51) = w2 := ⟨_, rfl⟩
  have hz2 : w2.heap.size = w.heap.size + 1 + 1 := by rw [← hw2]; simp
  rw [hw2] at kP kR hB1
  have e0 := kP.cell 0
  have e1 := kP.cell 1
  have e2 := kP.cell 2
  have e3 := kP.cell 3
  have e4 := kP.cell 4
  have hWx := Lib.hid (hW _ hB1)
  have hw2' := Lib.hid hw2
  have hz2' := Lib.hid hz2
  have kP' := Lib.hid kP
  have kR' := Lib.hid kR
  have hB1' := Lib.hid hB1
  have hN' := Lib.hid hN
  have hql' := Lib.hid hql
  have hLok' := Lib.hid hLok
  have hcntS' := Lib.hid hcntS
  have hRf' := Lib.hid hRf
  rw [hql] at hWx
  clear hA hB hn1 hn2 hl1 hl2 hll hok hs hsl hSC hrn hW kP kR hB1 hw2 hz2 hql hLok hcntS hRf hr
  go_enter Tryz.func16, Tryz.ntmps16
  go_upto_region 1 with (fail)
  rw [hw2'.out]
  go_upto_region 2 with (go_at_call 32; (with_reducible refine Calls.mono hWx.out ?_); rintro e w3 ⟨A3, c3, v3, rfl, hr3, hL3, hb3⟩; obtain ⟨A5, c5, rfl, hat3⟩ := hL3.at; rw [hN'.out]; have hr3' := Lib.hid hr3; have hat3' := Lib.hid hat3; have hb3' := Lib.hid hb3; clear hr3 hL3 hat3 hb3)
  have z3 := hb3'.out.size
  have hz2 := hz2'.out
  have hbQ : Below w3.heap.size w3 (w3.alloc (.cells #[.slice A3 ql c3, .int .i64 (l : Int), .string ⟨qn.line.toArray⟩, .bool qn.any, .bool qn.half] 49)) := (Below.refl _ _).alloc (Nat.le_refl _) _
  have hb4 := hb3'.out.trans (hbQ.mono z3)
  have kP4 := kP'.out.below hb4 kP'.out.lt
  have kR4 := kR'.out.below hb4 kR'.out.lt
  have kQ4 := Has.new w3 49 #[.slice A3 ql c3, .int .i64 (l : Int), .string ⟨qn.line.toArray⟩, .bool qn.any, .bool qn.half]
  have hB4 : Below w.heap.size w _ := hB1'.out.trans (hb4.mono (by omega))
  have hat4 := hat3'.out.below hbQ
  have hr4 := hr3'.out.kept (Kept.below hbQ (fun b hb => hb.2))
  obtain ⟨Q, hQ⟩ : ∃ Q, w3.heap.size = Q := ⟨_, rfl⟩
  obtain ⟨w4, hw4⟩ : ∃ w4, w3.alloc (.cells #[.slice A3 ql c3, .int .i64 (l : Int), .string ⟨qn.line.toArray⟩, .bool qn.any, .bool qn.half] 49) = w4 := ⟨_, rfl⟩
  have hz4 : w4.heap.size = Q + 1 := by rw [← hw4]; simp [hQ]
  rw [hw4] at kP4 kR4 kQ4 hB4 hat4 hr4 ⊢
  rw [hQ] at kQ4 hr4 ⊢
  have hPQ : w.heap.size + 1 < Q := by omega
  have p0 := kP4.cell 0
  have p1 := kP4.cell 1
  have p2 := kP4.cell 2
  have p3 := kP4.cell 3
  have p4 := kP4.cell 4
  have f0 := kP4.free 0
  have f1 := kP4.free 1
  have f2 := kP4.free 2
  have f3 := kP4.free 3
  have f4 := kP4.free 4
  have g0 := kQ4.cell 0
  have g1 := kQ4.cell 1
  have g2 := kQ4.cell 2
  have g3 := kQ4.cell 3
  have g4 := kQ4.cell 4
  have kP5 := ((((kP4.put 0 (.slice A3 ql c3)).put 1 (.int .i64 (l : Int))).put 2 (.string ⟨qn.line.toArray⟩)).put 3 (.bool qn.any)).put 4 (.bool qn.half)
  have hC5 := (((((Chg.refl (· = w.heap.size) w4).set (k := w.heap.size) rfl 0 (.slice A3 ql c3)).set (k := w.heap.size) rfl 1 (.int .i64 (l : Int))).set (k := w.heap.size) rfl 2 (.string ⟨qn.line.toArray⟩)).set (k := w.heap.size) rfl 3 (.bool qn.any)).set (k := w.heap.size) rfl 4 (.bool qn.half)
  obtain ⟨w5, hw5⟩ : ∃ w5, ((((w4.setCell ⟨w.heap.size, 0, none⟩ (.slice A3 ql c3)).setCell ⟨w.heap.size, 1, none⟩ (.int .i64 (l : Int))).setCell ⟨w.heap.size, 2, none⟩ (.string ⟨qn.line.toArray⟩)).setCell ⟨w.heap.size, 3, none⟩ (.bool qn.any)).setCell ⟨w.heap.size, 4, none⟩ (.bool qn.half) = w5 := ⟨_, rfl⟩
  rw [hw5] at kP5 hC5
  have kP5 : Has w5 w.heap.size 51 (rpC A3 ql c3 l m qn.line qn.any qn.half r) := by simpa [rpC] using kP5
  have hz5 : w5.heap.size = w4.heap.size := by rw [← hw5]; simp
  have kR5 := hC5.has (show ¬ (w.heap.size + 1 = w.heap.size) by omega) kR4
  have hB5 := hB4.trans (hC5.below (B := w.heap.size) (fun k hk => Nat.le_of_eq hk.symm) (by omega))
  have hat5 : LnAt w5 A5 rl := fun i y hy => by
    obtain ⟨g, hg, ⟨cs, hh⟩, h1, h2⟩ := hat4 i y hy
    have hgn : ¬ (g = w.heap.size) := fun e => by have h9 := kP4; rw [← e] at h9; exact absurd (hh.apart h9 (by decide)) (by simp)
    have hk := hC5.block g hh.lt hgn
    exact ⟨g, hg, ⟨cs, hk.trans hh⟩, (World.cell?_of_block hk).trans h1, (World.cell?_of_block hk).trans h2⟩
  have hr5 : Rd w5 (fun b => w2.heap.size ≤ b ∧ b < Q) A3 qn.ws := hr4.kept (fun b hb => hC5.block b (by have := hb.2; omega) (fun e => by have e : b = w.heap.size := e; have := hb.1; omega))
  have hw5' := Lib.hid hw5
  have hatH := Lib.hid hat5
  have hrH := Lib.hid hr5
  have kPH := Lib.hid kP5
  have kRH := Lib.hid kR5
  have hBH := Lib.hid hB5
  clear hw5 hat5 hr5 kP5 kR5 hB5 hC5 kP4 kR4 kQ4 hB4 hat4 hr4 hw4 hb4 hbQ hr3' hat3' hb3' kP' kR' hB1'
  go_upto_region 4 with (fail)
  rw [hw5'.out]
  clear p0 p1 p2 p3 p4 f0 f1 f2 f3 f4 g0 g1 g2 g3 g4 e0 e1 e2 e3 e4 hw5'
  have hln := Lib.hid (fun (r' : RfS) (y : List UInt8 × Bool) (W : World) (h1 : RfOk m r') (h2 : y.1.length ≤ 65536) => refLineP_any A3 ql c3 l m qn.line qn.any qn.half r' y W h1 hm h2)
  go_wp2
  go_loopw [8, 9] (fun v8 v9 W => ∃ i : Nat, v9 = .int .i64 (i : Int) ∧ i ≤ N ∧ RwP w5 w.heap.size w5.heap.size l m A3 ql c3 qn.line qn.any qn.half (rfLines m r (rl.take i)) v8 W) (fun _ v9 _ => N - (intOf v9).toNat)
  case atStart => exact ⟨0, rfl, Nat.zero_le _, sds_nil _ _, kPH.out, Chg.refl _ _⟩
  case round =>
    obtain ⟨i, rfl, hi, hv, hM, hC⟩ := hrel
    have hzr := hC.size
    by_cases hlt : i < N
    · have hii : (i : Int) < (N : Int) := by omega
      have hil : i < rl.length := by have := hN'.out; omega
      obtain ⟨⟨yt, yb⟩, hy⟩ : ∃ y, rl[i]? = some y := ⟨rl[i], List.getElem?_eq_getElem hil⟩
      have hyx : rl[i] = (yt, yb) := by rw [List.getElem?_eq_getElem hil] at hy; exact Option.some.inj hy
      have hyl : yt.length ≤ 65536 := by have := (hLok'.out (yt, yb) (List.mem_of_getElem? hy)).len; simp only at this; omega
      obtain ⟨g, rfl, ⟨cs, hg⟩, g1, g2⟩ := hatH.out i (yt, yb) hy
      have hgP : ¬ (g = w.heap.size) := fun e => by have h9 := kPH.out; rw [← e] at h9; exact absurd (hg.apart h9 (by decide)) (by simp)
      have hgk := hC.block g hg.lt hgP
      have g1 := (World.cell?_of_block hgk).trans g1
      have g2 := (World.cell?_of_block hgk).trans g2
      have hgr : g < wr.heap.size := by have := hg.lt; omega
      have hn := rfLines_take (m := m) (r := r) hil
      rw [hyx] at hn
      have hri := hRf'.out i
      have hci := hcntS'.out i
      rw [List.length_take] at hci
      obtain ⟨⟨ri, so⟩, hrs⟩ : ∃ z, rfLines m r (rl.take i) = z := ⟨_, rfl⟩
      rw [hrs] at hn hv hM hri hci
      simp only at hn hv hM hri hci
      have hlnw := Lib.hid (fun W => hln.out ri (yt, yb) W hri hyl)
      obtain ⟨⟨rj, sj⟩, hrj⟩ : ∃ z, rfLine m ri (yt, yb) = z := ⟨_, rfl⟩
      rw [hrj] at hlnw hn
      simp only at hn hlnw
      unfold rpC at hlnw hM
      have hK : Hid (∀ W, Below wr.heap.size wr W → ((W.cell? ⟨w.heap.size, 0, none⟩ = some (.slice A3 ql c3) ∧ W.cell? ⟨w.heap.size, 1, none⟩ = some (.int .i64 (l : Int)) ∧ W.cell? ⟨w.heap.size, 2, none⟩ = some (.string ⟨qn.line.toArray⟩) ∧ W.cell? ⟨w.heap.size, 3, none⟩ = some (.bool qn.any) ∧ W.cell? ⟨w.heap.size, 4, none⟩ = some (.bool qn.half) ∧ W.cell? ⟨w.heap.size, 5, none⟩ = some (.int .i64 (m : Int)) ∧ W.cell? ⟨w.heap.size, 6, none⟩ = some (.string ⟨ri.id.toArray⟩) ∧ W.cell? ⟨w.heap.size, 7, none⟩ = some (.string ⟨ri.type.toArray⟩) ∧ W.cell? ⟨w.heap.size, 8, none⟩ = some (.string ⟨ri.data.toArray⟩) ∧ W.cell? ⟨w.heap.size, 9, none⟩ = some (.bool ri.some) ∧ W.cell? ⟨w.heap.size, 10, none⟩ = some (.bool ri.long)) ∧ W.cell? ⟨g, i * 2, none⟩ = some (.string ⟨yt.toArray⟩) ∧ W.cell? ⟨g, i * 2 + 1, none⟩ = some (.bool yb))) := Lib.hid (fun W hb => by
        have hk := hM.below hb hM.lt
        exact ⟨⟨hk.cell 0, hk.cell 1, hk.cell 2, hk.cell 3, hk.cell 4, hk.cell 5, hk.cell 6, hk.cell 7, hk.cell 8, hk.cell 9, hk.cell 10⟩, (hb.cell (p := ⟨g, i * 2, none⟩) hgr).trans g1, (hb.cell (p := ⟨g, i * 2 + 1, none⟩) hgr).trans g2⟩)
      have hvH := Lib.hid hv
      have hMH := Lib.hid hM
      have hCH := Lib.hid hC
      have hnH := Lib.hid hn
      have hgkH := Lib.hid hgk
      have hyH := Lib.hid hy
      have hyxH := Lib.hid hyx
      have hrsH := Lib.hid hrs
      clear hv hM hC hn hgk hy hyx hrs hri hrj hg g1 g2
      go_upto_region 7 with (fail)
      obtain ⟨sd, hsd⟩ : ∃ sd, sdO sj = sd := ⟨_, rfl⟩
      obtain ⟨sb, hsb⟩ : ∃ sb, sj.isSome = sb := ⟨_, rfl⟩
      rw [hsd, hsb] at hlnw
      unfold sdC at hlnw
      have hbd := Lib.hid ((Below.refl wr.heap.size wr).drew)
      have hbP := Lib.hid (((Below.refl wr.heap.size wr).alloc (Nat.le_refl _) (.cells #[.slice none 0 0, .int .i64 0, .string ⟨#[]⟩, .bool false, .bool false, .int .i64 0, .string ⟨#[]⟩, .string ⟨#[]⟩, .string ⟨#[]⟩, .bool false, .bool false] 51)).drew)
      have hbS := Lib.hid (((Below.refl wr.heap.size wr).alloc (Nat.le_refl _) (.cells #[.int .i64 0, .string ⟨#[]⟩, .string ⟨#[]⟩, .string ⟨#[]⟩, .int .u64 0] 40)).drew)
      have hbPS := Lib.hid ((((Below.refl wr.heap.size wr).alloc (Nat.le_refl _) (.cells #[.slice none 0 0, .int .i64 0, .string ⟨#[]⟩, .bool false, .bool false, .int .i64 0, .string ⟨#[]⟩, .string ⟨#[]⟩, .string ⟨#[]⟩, .bool false, .bool false] 51)).alloc (by simp) (.cells #[.int .i64 0, .string ⟨#[]⟩, .string ⟨#[]⟩, .string ⟨#[]⟩, .int .u64 0] 40)).drew)
      have hbSP := Lib.hid ((((Below.refl wr.heap.size wr).alloc (Nat.le_refl _) (.cells #[.int .i64 0, .string ⟨#[]⟩, .string ⟨#[]⟩, .string ⟨#[]⟩, .int .u64 0] 40)).alloc (by simp) (.cells #[.slice none 0 0, .int .i64 0, .string ⟨#[]⟩, .bool false, .bool false, .int .i64 0, .string ⟨#[]⟩, .string ⟨#[]⟩, .string ⟨#[]⟩, .bool false, .bool false] 51)).drew)
      have khbPP := Lib.hid ((Has.new wr 51 #[.slice none 0 0, .int .i64 0, .string ⟨#[]⟩, .bool false, .bool false, .int .i64 0, .string ⟨#[]⟩, .string ⟨#[]⟩, .string ⟨#[]⟩, .bool false, .bool false]).drew)
      have khbSS := Lib.hid ((Has.new wr 40 #[.int .i64 0, .string ⟨#[]⟩, .string ⟨#[]⟩, .string ⟨#[]⟩, .int .u64 0]).drew)
      have khbPSP := Lib.hid (((Has.new wr 51 #[.slice none 0 0, .int .i64 0, .string ⟨#[]⟩, .bool false, .bool false, .int .i64 0, .string ⟨#[]⟩, .string ⟨#[]⟩, .string ⟨#[]⟩, .bool false, .bool false]).alloc (.cells #[.int .i64 0, .string ⟨#[]⟩, .string ⟨#[]⟩, .string ⟨#[]⟩, .int .u64 0] 40)).drew)
      have khbPSS := Lib.hid ((Has.new (wr.alloc (.cells #[.slice none 0 0, .int .i64 0, .string ⟨#[]⟩, .bool false, .bool false, .int .i64 0, .string ⟨#[]⟩, .string ⟨#[]⟩, .string ⟨#[]⟩, .bool false, .bool false] 51)) 40 #[.int .i64 0, .string ⟨#[]⟩, .string ⟨#[]⟩, .string ⟨#[]⟩, .int .u64 0]).drew)
      simp only [World.size_alloc] at khbPSS
      have khbSPS := Lib.hid (((Has.new wr 40 #[.int .i64 0, .string ⟨#[]⟩, .string ⟨#[]⟩, .string ⟨#[]⟩, .int .u64 0]).alloc (.cells #[.slice none 0 0, .int .i64 0, .string ⟨#[]⟩, .bool false, .bool false, .int .i64 0, .string ⟨#[]⟩, .string ⟨#[]⟩, .string ⟨#[]⟩, .bool false, .bool false] 51)).drew)
      have khbSPP := Lib.hid ((Has.new (wr.alloc (.cells #[.int .i64 0, .string ⟨#[]⟩, .string ⟨#[]⟩, .string ⟨#[]⟩, .int .u64 0] 40)) 51 #[.slice none 0 0, .int .i64 0, .string ⟨#[]⟩, .bool false, .bool false, .int .i64 0, .string ⟨#[]⟩, .string ⟨#[]⟩, .string ⟨#[]⟩, .bool false, .bool false]).drew)
      simp only [World.size_alloc] at khbSPP
      go_cut [10, 11, 12] from 22 to 43 (fun s10 s11 s12 wx => ∃ (a b : Nat), s10 = .pointer (some ⟨a, 0, none⟩) ∧ s11 = .pointer (some ⟨b, 0, none⟩) ∧ s12 = .bool sb ∧ wr.heap.size ≤ a ∧ wr.heap.size ≤ b ∧ Has wx a 51 (rpC A3 ql c3 l m qn.line qn.any qn.half rj) ∧ Has wx b 40 (sdC sd) ∧ Below wr.heap.size wr wx)
      case first =>
        go_region_held3 (fun W => (W.cell? ⟨w.heap.size, 0, none⟩ = some (.slice A3 ql c3) ∧ W.cell? ⟨w.heap.size, 1, none⟩ = some (.int .i64 (l : Int)) ∧ W.cell? ⟨w.heap.size, 2, none⟩ = some (.string ⟨qn.line.toArray⟩) ∧ W.cell? ⟨w.heap.size, 3, none⟩ = some (.bool qn.any) ∧ W.cell? ⟨w.heap.size, 4, none⟩ = some (.bool qn.half) ∧ W.cell? ⟨w.heap.size, 5, none⟩ = some (.int .i64 (m : Int)) ∧ W.cell? ⟨w.heap.size, 6, none⟩ = some (.string ⟨ri.id.toArray⟩) ∧ W.cell? ⟨w.heap.size, 7, none⟩ = some (.string ⟨ri.type.toArray⟩) ∧ W.cell? ⟨w.heap.size, 8, none⟩ = some (.string ⟨ri.data.toArray⟩) ∧ W.cell? ⟨w.heap.size, 9, none⟩ = some (.bool ri.some) ∧ W.cell? ⟨w.heap.size, 10, none⟩ = some (.bool ri.long)) ∧ W.cell? ⟨g, i * 2, none⟩ = some (.string ⟨yt.toArray⟩) ∧ W.cell? ⟨g, i * 2 + 1, none⟩ = some (.bool yb))
          (first
          | with_reducible exact hK.out _ hbd.out
          | with_reducible exact hK.out _ hbP.out
          | with_reducible exact hK.out _ hbS.out
          | with_reducible exact hK.out _ hbPS.out
          | with_reducible exact hK.out _ hbSP.out
          | with_reducible exact hK.out _ hbw.out
          | with_reducible exact hK.out _ (hbv.out _)
          | (refine hK.out _ ?_; repeat' (first | with_reducible exact hbw.out | with_reducible refine Below.drew ?_ | with_reducible refine Below.alloc ?_ ?_ _ | with_reducible refine Below.setCell ?_ ?_ _ | omega | (simp only [World.size_alloc, World.size_setCell, World.size_drew]; omega) | (simp; omega)))
          | fail)
          (first
          | (go_at_call 33; (with_reducible refine Calls.mono (hlnw.out (wr.drew)) ?_); rintro e w2 ⟨rfl, hb2⟩; have hbw := Lib.hid (hbd.out.trans (hb2.mono hbd.out.size)); have hsw := hbw.out.size; have hbv := Lib.hid (fun o => hbw.out.alloc hbw.out.size o); clear hb2)
          | (go_at_call 33; (with_reducible refine Calls.mono (hlnw.out ((wr.alloc (.cells #[.slice none 0 0, .int .i64 0, .string ⟨#[]⟩, .bool false, .bool false, .int .i64 0, .string ⟨#[]⟩, .string ⟨#[]⟩, .string ⟨#[]⟩, .bool false, .bool false] 51)).drew)) ?_); rintro e w2 ⟨rfl, hb2⟩; have hbw := Lib.hid (hbP.out.trans (hb2.mono hbP.out.size)); have hsw := hbw.out.size; have hbv := Lib.hid (fun o => hbw.out.alloc hbw.out.size o); have nP := (khbPP.out.below hb2 khbPP.out.lt); have cP0 := nP.cell 0; have fP0 := nP.free 0; have cP1 := nP.cell 1; have fP1 := nP.free 1; have cP2 := nP.cell 2; have fP2 := nP.free 2; have cP3 := nP.cell 3; have fP3 := nP.free 3; have cP4 := nP.cell 4; have fP4 := nP.free 4; have cP5 := nP.cell 5; have fP5 := nP.free 5; have cP6 := nP.cell 6; have fP6 := nP.free 6; have cP7 := nP.cell 7; have fP7 := nP.free 7; have cP8 := nP.cell 8; have fP8 := nP.free 8; have cP9 := nP.cell 9; have fP9 := nP.free 9; have cP10 := nP.cell 10; have fP10 := nP.free 10; have ltP := nP.lt; have nPH := Lib.hid nP; clear nP; clear hb2)
          | (go_at_call 33; (with_reducible refine Calls.mono (hlnw.out ((wr.alloc (.cells #[.int .i64 0, .string ⟨#[]⟩, .string ⟨#[]⟩, .string ⟨#[]⟩, .int .u64 0] 40)).drew)) ?_); rintro e w2 ⟨rfl, hb2⟩; have hbw := Lib.hid (hbS.out.trans (hb2.mono hbS.out.size)); have hsw := hbw.out.size; have hbv := Lib.hid (fun o => hbw.out.alloc hbw.out.size o); have nS := (khbSS.out.below hb2 khbSS.out.lt); have cS0 := nS.cell 0; have fS0 := nS.free 0; have cS1 := nS.cell 1; have fS1 := nS.free 1; have cS2 := nS.cell 2; have fS2 := nS.free 2; have cS3 := nS.cell 3; have fS3 := nS.free 3; have cS4 := nS.cell 4; have fS4 := nS.free 4; have ltS := nS.lt; have nSH := Lib.hid nS; clear nS; clear hb2)
          | (go_at_call 33; (with_reducible refine Calls.mono (hlnw.out (((wr.alloc (.cells #[.slice none 0 0, .int .i64 0, .string ⟨#[]⟩, .bool false, .bool false, .int .i64 0, .string ⟨#[]⟩, .string ⟨#[]⟩, .string ⟨#[]⟩, .bool false, .bool false] 51)).alloc (.cells #[.int .i64 0, .string ⟨#[]⟩, .string ⟨#[]⟩, .string ⟨#[]⟩, .int .u64 0] 40)).drew)) ?_); rintro e w2 ⟨rfl, hb2⟩; have hbw := Lib.hid (hbPS.out.trans (hb2.mono hbPS.out.size)); have hsw := hbw.out.size; have hbv := Lib.hid (fun o => hbw.out.alloc hbw.out.size o); have nP := (khbPSP.out.below hb2 khbPSP.out.lt); have cP0 := nP.cell 0; have fP0 := nP.free 0; have cP1 := nP.cell 1; have fP1 := nP.free 1; have cP2 := nP.cell 2; have fP2 := nP.free 2; have cP3 := nP.cell 3; have fP3 := nP.free 3; have cP4 := nP.cell 4; have fP4 := nP.free 4; have cP5 := nP.cell 5; have fP5 := nP.free 5; have cP6 := nP.cell 6; have fP6 := nP.free 6; have cP7 := nP.cell 7; have fP7 := nP.free 7; have cP8 := nP.cell 8; have fP8 := nP.free 8; have cP9 := nP.cell 9; have fP9 := nP.free 9; have cP10 := nP.cell 10; have fP10 := nP.free 10; have ltP := nP.lt; have nPH := Lib.hid nP; clear nP; have nS := (khbPSS.out.below hb2 khbPSS.out.lt); have cS0 := nS.cell 0; have fS0 := nS.free 0; have cS1 := nS.cell 1; have fS1 := nS.free 1; have cS2 := nS.cell 2; have fS2 := nS.free 2; have cS3 := nS.cell 3; have fS3 := nS.free 3; have cS4 := nS.cell 4; have fS4 := nS.free 4; have ltS := nS.lt; have nSH := Lib.hid nS; clear nS; clear hb2)
          | (go_at_call 33; (with_reducible refine Calls.mono (hlnw.out (((wr.alloc (.cells #[.int .i64 0, .string ⟨#[]⟩, .string ⟨#[]⟩, .string ⟨#[]⟩, .int .u64 0] 40)).alloc (.cells #[.slice none 0 0, .int .i64 0, .string ⟨#[]⟩, .bool false, .bool false, .int .i64 0, .string ⟨#[]⟩, .string ⟨#[]⟩, .string ⟨#[]⟩, .bool false, .bool false] 51)).drew)) ?_); rintro e w2 ⟨rfl, hb2⟩; have hbw := Lib.hid (hbSP.out.trans (hb2.mono hbSP.out.size)); have hsw := hbw.out.size; have hbv := Lib.hid (fun o => hbw.out.alloc hbw.out.size o); have nS := (khbSPS.out.below hb2 khbSPS.out.lt); have cS0 := nS.cell 0; have fS0 := nS.free 0; have cS1 := nS.cell 1; have fS1 := nS.free 1; have cS2 := nS.cell 2; have fS2 := nS.free 2; have cS3 := nS.cell 3; have fS3 := nS.free 3; have cS4 := nS.cell 4; have fS4 := nS.free 4; have ltS := nS.lt; have nSH := Lib.hid nS; clear nS; have nP := (khbSPP.out.below hb2 khbSPP.out.lt); have cP0 := nP.cell 0; have fP0 := nP.free 0; have cP1 := nP.cell 1; have fP1 := nP.free 1; have cP2 := nP.cell 2; have fP2 := nP.free 2; have cP3 := nP.cell 3; have fP3 := nP.free 3; have cP4 := nP.cell 4; have fP4 := nP.free 4; have cP5 := nP.cell 5; have fP5 := nP.free 5; have cP6 := nP.cell 6; have fP6 := nP.free 6; have cP7 := nP.cell 7; have fP7 := nP.free 7; have cP8 := nP.cell 8; have fP8 := nP.free 8; have cP9 := nP.cell 9; have fP9 := nP.free 9; have cP10 := nP.cell 10; have fP10 := nP.free 10; have ltP := nP.lt; have nPH := Lib.hid nP; clear nP; clear hb2)
          | fail)
        · go_wp2_with fail
          go_meet
          case rel =>
            have h2 := Has.new (w2.alloc (.cells #[.slice A3 ql c3, .int .i64 (l : Int), .string ⟨qn.line.toArray⟩, .bool qn.any, .bool qn.half, .int .i64 (m : Int), .string ⟨rj.id.toArray⟩, .string ⟨rj.type.toArray⟩, .string ⟨rj.data.toArray⟩, .bool rj.some, .bool rj.long] 51)) 40 (sdC sd)
            rw [World.size_alloc] at h2
            exact ⟨_, _, rfl, rfl, rfl, hsw, by omega, (Has.new w2 _ _).alloc _, h2, (hbw.out.alloc hsw _).alloc (by rw [World.size_alloc]; omega) _⟩
        · go_wp2_with fail
          go_meet
          case rel =>
            have h2 := Has.new (w2.alloc (.cells #[.int .i64 sd.1, .string ⟨sd.2.1.1.toArray⟩, .string ⟨sd.2.1.2.1.toArray⟩, .string ⟨sd.2.1.2.2.toArray⟩, .int .u64 sd.2.2] 40)) 51 (rpC A3 ql c3 l m qn.line qn.any qn.half rj)
            rw [World.size_alloc] at h2
            exact ⟨_, _, rfl, rfl, rfl, by omega, hsw, h2, (Has.new w2 _ _).alloc _, (hbw.out.alloc hsw _).alloc (by rw [World.size_alloc]; omega) _⟩
        · go_wp2_with fail
          go_meet
          case rel =>
            have hP := has_set11 nPH.out (.slice A3 ql c3) (.int .i64 (l : Int)) (.string ⟨qn.line.toArray⟩) (.bool qn.any) (.bool qn.half) (.int .i64 (m : Int)) (.string ⟨rj.id.toArray⟩) (.string ⟨rj.type.toArray⟩) (.string ⟨rj.data.toArray⟩) (.bool rj.some) (.bool rj.long)
            have hC := chg_set11 w2 wr.heap.size (.slice A3 ql c3) (.int .i64 (l : Int)) (.string ⟨qn.line.toArray⟩) (.bool qn.any) (.bool qn.half) (.int .i64 (m : Int)) (.string ⟨rj.id.toArray⟩) (.string ⟨rj.type.toArray⟩) (.string ⟨rj.data.toArray⟩) (.bool rj.some) (.bool rj.long)
            have hb := hbw.out.trans (hC.below (B := wr.heap.size) (fun k hk => Nat.le_of_eq hk.symm) hsw)
            have hz : (S11 w2 wr.heap.size (.slice A3 ql c3) (.int .i64 (l : Int)) (.string ⟨qn.line.toArray⟩) (.bool qn.any) (.bool qn.half) (.int .i64 (m : Int)) (.string ⟨rj.id.toArray⟩) (.string ⟨rj.type.toArray⟩) (.string ⟨rj.data.toArray⟩) (.bool rj.some) (.bool rj.long)).heap.size = w2.heap.size := by simp [S11]
            have h2 := Has.new (S11 w2 wr.heap.size (.slice A3 ql c3) (.int .i64 (l : Int)) (.string ⟨qn.line.toArray⟩) (.bool qn.any) (.bool qn.half) (.int .i64 (m : Int)) (.string ⟨rj.id.toArray⟩) (.string ⟨rj.type.toArray⟩) (.string ⟨rj.data.toArray⟩) (.bool rj.some) (.bool rj.long)) 40 (sdC sd)
            rw [hz] at h2
            exact ⟨_, _, rfl, rfl, rfl, Nat.le_refl _, hsw, hP.alloc _, h2, hb.alloc hb.size _⟩
        · go_wp2_with fail
          go_meet
          case rel =>
            have hP := has_set11 nPH.out (.slice A3 ql c3) (.int .i64 (l : Int)) (.string ⟨qn.line.toArray⟩) (.bool qn.any) (.bool qn.half) (.int .i64 (m : Int)) (.string ⟨rj.id.toArray⟩) (.string ⟨rj.type.toArray⟩) (.string ⟨rj.data.toArray⟩) (.bool rj.some) (.bool rj.long)
            have hC := chg_set11 w2 wr.heap.size (.slice A3 ql c3) (.int .i64 (l : Int)) (.string ⟨qn.line.toArray⟩) (.bool qn.any) (.bool qn.half) (.int .i64 (m : Int)) (.string ⟨rj.id.toArray⟩) (.string ⟨rj.type.toArray⟩) (.string ⟨rj.data.toArray⟩) (.bool rj.some) (.bool rj.long)
            have hS0 := hC.has (show ¬ (wr.heap.size + 1 = wr.heap.size) by omega) nSH.out
            have hS := has_setS hS0 (.int .i64 sd.1) (.string ⟨sd.2.1.1.toArray⟩) (.string ⟨sd.2.1.2.1.toArray⟩) (.string ⟨sd.2.1.2.2.toArray⟩) (.int .u64 sd.2.2)
            have hC2 := chg_setS (S11 w2 wr.heap.size (.slice A3 ql c3) (.int .i64 (l : Int)) (.string ⟨qn.line.toArray⟩) (.bool qn.any) (.bool qn.half) (.int .i64 (m : Int)) (.string ⟨rj.id.toArray⟩) (.string ⟨rj.type.toArray⟩) (.string ⟨rj.data.toArray⟩) (.bool rj.some) (.bool rj.long)) (wr.heap.size + 1) (.int .i64 sd.1) (.string ⟨sd.2.1.1.toArray⟩) (.string ⟨sd.2.1.2.1.toArray⟩) (.string ⟨sd.2.1.2.2.toArray⟩) (.int .u64 sd.2.2)
            have hP2 := hC2.has (show ¬ (wr.heap.size = wr.heap.size + 1) by omega) hP
            have hb := hbw.out.trans (hC.below (B := wr.heap.size) (fun k hk => Nat.le_of_eq hk.symm) hsw)
            have hb2 := hb.trans (hC2.below (B := wr.heap.size) (fun k (hk : k = wr.heap.size + 1) => by omega) hb.size)
            exact ⟨_, _, rfl, rfl, rfl, Nat.le_refl _, Nat.le_succ _, hP2, hS, hb2⟩
        · go_wp2_with fail
          go_meet
          case rel =>
            have hS := has_setS nSH.out (.int .i64 sd.1) (.string ⟨sd.2.1.1.toArray⟩) (.string ⟨sd.2.1.2.1.toArray⟩) (.string ⟨sd.2.1.2.2.toArray⟩) (.int .u64 sd.2.2)
            have hC := chg_setS w2 wr.heap.size (.int .i64 sd.1) (.string ⟨sd.2.1.1.toArray⟩) (.string ⟨sd.2.1.2.1.toArray⟩) (.string ⟨sd.2.1.2.2.toArray⟩) (.int .u64 sd.2.2)
            have hb := hbw.out.trans (hC.below (B := wr.heap.size) (fun k hk => Nat.le_of_eq hk.symm) hsw)
            have hz : (SS5 w2 wr.heap.size (.int .i64 sd.1) (.string ⟨sd.2.1.1.toArray⟩) (.string ⟨sd.2.1.2.1.toArray⟩) (.string ⟨sd.2.1.2.2.toArray⟩) (.int .u64 sd.2.2)).heap.size = w2.heap.size := by simp [SS5]
            have h2 := Has.new (SS5 w2 wr.heap.size (.int .i64 sd.1) (.string ⟨sd.2.1.1.toArray⟩) (.string ⟨sd.2.1.2.1.toArray⟩) (.string ⟨sd.2.1.2.2.toArray⟩) (.int .u64 sd.2.2)) 51 (rpC A3 ql c3 l m qn.line qn.any qn.half rj)
            rw [hz] at h2
            exact ⟨_, _, rfl, rfl, rfl, hsw, Nat.le_refl _, h2, hS.alloc _, hb.alloc hb.size _⟩
        · go_wp2_with fail
          go_meet
          case rel =>
            have hP := has_set11 nPH.out (.slice A3 ql c3) (.int .i64 (l : Int)) (.string ⟨qn.line.toArray⟩) (.bool qn.any) (.bool qn.half) (.int .i64 (m : Int)) (.string ⟨rj.id.toArray⟩) (.string ⟨rj.type.toArray⟩) (.string ⟨rj.data.toArray⟩) (.bool rj.some) (.bool rj.long)
            have hC := chg_set11 w2 (wr.heap.size + 1) (.slice A3 ql c3) (.int .i64 (l : Int)) (.string ⟨qn.line.toArray⟩) (.bool qn.any) (.bool qn.half) (.int .i64 (m : Int)) (.string ⟨rj.id.toArray⟩) (.string ⟨rj.type.toArray⟩) (.string ⟨rj.data.toArray⟩) (.bool rj.some) (.bool rj.long)
            have hS0 := hC.has (show ¬ (wr.heap.size = wr.heap.size + 1) by omega) nSH.out
            have hS := has_setS hS0 (.int .i64 sd.1) (.string ⟨sd.2.1.1.toArray⟩) (.string ⟨sd.2.1.2.1.toArray⟩) (.string ⟨sd.2.1.2.2.toArray⟩) (.int .u64 sd.2.2)
            have hC2 := chg_setS (S11 w2 (wr.heap.size + 1) (.slice A3 ql c3) (.int .i64 (l : Int)) (.string ⟨qn.line.toArray⟩) (.bool qn.any) (.bool qn.half) (.int .i64 (m : Int)) (.string ⟨rj.id.toArray⟩) (.string ⟨rj.type.toArray⟩) (.string ⟨rj.data.toArray⟩) (.bool rj.some) (.bool rj.long)) wr.heap.size (.int .i64 sd.1) (.string ⟨sd.2.1.1.toArray⟩) (.string ⟨sd.2.1.2.1.toArray⟩) (.string ⟨sd.2.1.2.2.toArray⟩) (.int .u64 sd.2.2)
            have hP2 := hC2.has (show ¬ (wr.heap.size + 1 = wr.heap.size) by omega) hP
            have hb := hbw.out.trans (hC.below (B := wr.heap.size) (fun k (hk : k = wr.heap.size + 1) => by omega) hsw)
            have hb2 := hb.trans (hC2.below (B := wr.heap.size) (fun k hk => Nat.le_of_eq hk.symm) hb.size)
            exact ⟨_, _, rfl, rfl, rfl, Nat.le_succ _, Nat.le_refl _, hP2, hS, hb2⟩
      case rest =>
        obtain ⟨a, b, rfl, rfl, rfl, ha, hb', hHa, hHb, hbx⟩ := hcut
        have hPl := hMH.out.lt
        have hMx := hMH.out.below hbx hPl
        have y0 := hHa.cell 0
        have y1 := hHa.cell 1
        have y2 := hHa.cell 2
        have y3 := hHa.cell 3
        have y4 := hHa.cell 4
        have y5 := hHa.cell 5
        have y6 := hHa.cell 6
        have y7 := hHa.cell 7
        have y8 := hHa.cell 8
        have y9 := hHa.cell 9
        have y10 := hHa.cell 10
        unfold rpC at y0 y1 y2 y3 y4 y5 y6 y7 y8 y9 y10
        have p0 := hMx.cell 0
        have f0 := hMx.free 0
        have p1 := hMx.cell 1
        have f1 := hMx.free 1
        have p2 := hMx.cell 2
        have f2 := hMx.free 2
        have p3 := hMx.cell 3
        have f3 := hMx.free 3
        have p4 := hMx.cell 4
        have f4 := hMx.free 4
        have p5 := hMx.cell 5
        have f5 := hMx.free 5
        have p6 := hMx.cell 6
        have f6 := hMx.free 6
        have p7 := hMx.cell 7
        have f7 := hMx.free 7
        have p8 := hMx.cell 8
        have f8 := hMx.free 8
        have p9 := hMx.cell 9
        have f9 := hMx.free 9
        have p10 := hMx.cell 10
        have f10 := hMx.free 10
        have kP := has_set11 hMx (.slice A3 ql c3) (.int .i64 (l : Int)) (.string ⟨qn.line.toArray⟩) (.bool qn.any) (.bool qn.half) (.int .i64 (m : Int)) (.string ⟨rj.id.toArray⟩) (.string ⟨rj.type.toArray⟩) (.string ⟨rj.data.toArray⟩) (.bool rj.some) (.bool rj.long)
        have hC8 := chg_set11 wc w.heap.size (.slice A3 ql c3) (.int .i64 (l : Int)) (.string ⟨qn.line.toArray⟩) (.bool qn.any) (.bool qn.half) (.int .i64 (m : Int)) (.string ⟨rj.id.toArray⟩) (.string ⟨rj.type.toArray⟩) (.string ⟨rj.data.toArray⟩) (.bool rj.some) (.bool rj.long)
        have hS8 := hC8.has (show ¬ (b = w.heap.size) by omega) hHb
        have hCc := (hCH.out.trans (.of_below hbx)).trans hC8
        have hv8 := (hvH.out.below hbx).kept (fun g hg => hC8.block g (by have := ((hvH.out.below hbx).own g hg).2.choose_spec.lt; exact this) (fun e => by have := (hvH.out.own g hg).1; have e : g = w.heap.size := e; omega))
        have hz8 := hC8.size
        obtain ⟨w9, hw9⟩ : ∃ w9, S11 wc w.heap.size (.slice A3 ql c3) (.int .i64 (l : Int)) (.string ⟨qn.line.toArray⟩) (.bool qn.any) (.bool qn.half) (.int .i64 (m : Int)) (.string ⟨rj.id.toArray⟩) (.string ⟨rj.type.toArray⟩) (.string ⟨rj.data.toArray⟩) (.bool rj.some) (.bool rj.long) = w9 := ⟨_, rfl⟩
        rw [hw9] at kP hC8 hS8 hCc hv8 hz8
        have hz9 : w5.heap.size ≤ w9.heap.size := hCc.size
        unfold S11 at hw9
        have hw9' := Lib.hid hw9
        have kP9 := Lib.hid kP
        have hS9 := Lib.hid hS8
        have hC9 := Lib.hid hCc
        have hv9 := Lib.hid hv8
        have hbz := hS8.lt
        clear hw9 kP hS8 hCc hv8 hC8 hMx hHa hHb hbx
        go_upto_region 9 with (fail)
        rw [hw9'.out]
        clear hw9' y0 y1 y2 y3 y4 y5 y6 y7 y8 y9 y10 p0 f0 p1 f1 p2 f2 p3 f3 p4 f4 p5 f5 p6 f6 p7 f7 p8 f8 p9 f9 p10 f10
        cases sj with
        | none =>
          simp only [Option.isSome_none] at hsb
          subst hsb
          go_wp2
          refine ⟨⟨i + 1, by go_num, by omega, ?_, ?_, ?_⟩, by simp [intOf]; omega⟩
          · rw [hnH.out]
            simpa using hv9.out
          · rw [hnH.out]
            exact kP9.out
          · exact hC9.out
        | some y =>
          simp only [Option.isSome_some] at hsb
          have hyd : y = sd := hsd
          subst hsb
          have s0 := hS9.out.cell 0
          have s1 := hS9.out.cell 1
          have s2 := hS9.out.cell 2
          have s3 := hS9.out.cell 3
          have s4 := hS9.out.cell 4
          unfold sdC at s0 s1 s2 s3 s4
          have hnw := Lib.hid (SdAt.lit (xs := [sd]) (Has.new w9 40 (sdC sd)))
          have hva := Lib.hid (hv9.out.below ((Below.refl _ _).alloc (Nat.le_refl _) (.cells (sdC sd) 40)))
          have hlen : Hid (so.length + 1 ≤ 1000000000) := Lib.hid (by omega)
          clear hsd
          go_wp2_with (at_builtin; refine wpList_append_sds rfl _ _ rfl rfl hva.out (some ⟨w9.heap.size, 0, none⟩) [sd] 1 1 rfl rfl hnw.out hlen.out (by simp; omega) ?_; intro v3 w3 hv3 hg3; have hv3' := Lib.hid hv3; have hg3' := Lib.hid hg3; clear hv3 hg3)
          have hal : Below w9.heap.size w9 (w9.alloc (.cells (sdC sd) 40)) := (Below.refl _ _).alloc (Nat.le_refl _) _
          refine ⟨⟨i + 1, by go_num, by omega, ?_, ?_, ?_⟩, by simp [intOf]; omega⟩
          · rw [hnH.out, hyd]
            simpa using hv3'.out
          · rw [hnH.out]
            exact (hg3'.out.block w.heap.size (by simp; omega) (fun e => by have := (hva.out.own _ e.symm).1; omega)).trans (kP9.out.alloc _)
          · exact (hC9.out.trans (.of_below hal)).grownBy hg3'.out (fun g e => (hva.out.own g e).1)
    · obtain rfl : i = N := by omega
      have hNN := hN'.out
      rw [List.take_of_length_le (by omega)] at hv hM
      have hqz := hql'.out
      obtain ⟨⟨ri, so⟩, hrs⟩ : ∃ z, rfLines m r rl = z := ⟨_, rfl⟩
      rw [hrs] at hv hM
      simp only at hv hM
      unfold rpC at hM
      have hRr := hC.has (show ¬ (w.heap.size + 1 = w.heap.size) by omega) kRH.out
      have p0 := hM.cell 0
      have g0 := hRr.cell 0
      have f0 := hRr.free 0
      have p1 := hM.cell 1
      have g1 := hRr.cell 1
      have f1 := hRr.free 1
      have p2 := hM.cell 2
      have g2 := hRr.cell 2
      have f2 := hRr.free 2
      have p3 := hM.cell 3
      have g3 := hRr.cell 3
      have f3 := hRr.free 3
      have p4 := hM.cell 4
      have g4 := hRr.cell 4
      have f4 := hRr.free 4
      have p5 := hM.cell 5
      have g5 := hRr.cell 5
      have f5 := hRr.free 5
      have p6 := hM.cell 6
      have g6 := hRr.cell 6
      have f6 := hRr.free 6
      have p7 := hM.cell 7
      have g7 := hRr.cell 7
      have f7 := hRr.free 7
      have p8 := hM.cell 8
      have g8 := hRr.cell 8
      have f8 := hRr.free 8
      have p9 := hM.cell 9
      have g9 := hRr.cell 9
      have f9 := hRr.free 9
      have p10 := hM.cell 10
      have g10 := hRr.cell 10
      have f10 := hRr.free 10
      obtain ⟨A9, c9, rfl, _⟩ := hv.shape
      obtain ⟨ln, hln9⟩ : ∃ ln, so.length = ln := ⟨_, rfl⟩
      rw [hln9] at hv ⊢
      have hln' := Lib.hid hln9
      have hv' := Lib.hid hv
      have hC' := Lib.hid hC
      have hRr' := Lib.hid hRr
      have hrs' := Lib.hid hrs
      clear hv hM hC hRr hrs hln9
      go_wp2
      have kF := has_set11 hRr'.out (.slice A3 ql c3) (.int .i64 (l : Int)) (.string ⟨qn.line.toArray⟩) (.bool qn.any) (.bool qn.half) (.int .i64 (m : Int)) (.string ⟨ri.id.toArray⟩) (.string ⟨ri.type.toArray⟩) (.string ⟨ri.data.toArray⟩) (.bool ri.some) (.bool ri.long)
      have hCR := chg_set11 wr (w.heap.size + 1) (.slice A3 ql c3) (.int .i64 (l : Int)) (.string ⟨qn.line.toArray⟩) (.bool qn.any) (.bool qn.half) (.int .i64 (m : Int)) (.string ⟨ri.id.toArray⟩) (.string ⟨ri.type.toArray⟩) (.string ⟨ri.data.toArray⟩) (.bool ri.some) (.bool ri.long)
      have x0 := kF.cell 0
      have x1 := kF.cell 1
      have x2 := kF.cell 2
      have x3 := kF.cell 3
      have x4 := kF.cell 4
      have x5 := kF.cell 5
      have x6 := kF.cell 6
      have x7 := kF.cell 7
      have x8 := kF.cell 8
      have x9 := kF.cell 9
      have x10 := kF.cell 10
      refine bodyPost_ret (v := .tuple #[.agg #[.slice A3 ql c3, .int .i64 (l : Int), .string ⟨qn.line.toArray⟩, .bool qn.any, .bool qn.half, .int .i64 (m : Int), .string ⟨ri.id.toArray⟩, .string ⟨ri.type.toArray⟩, .string ⟨ri.data.toArray⟩, .bool ri.some, .bool ri.long], .slice A9 ln c9]) (by simp [results, Tryz.results16, go_sem, x0, x1, x2, x3, x4, x5, x6, x7, x8, x9, x10]) rfl ?_
      have hzr := hC'.out.size
      have hzR := hCR.size
      have hz52 : w5.heap.size = Q + 1 := by omega
      have hq5 := hBH.out.size
      have hw25 : w2.heap.size = w.heap.size + 1 + 1 := hz2'.out
      refine ⟨A3, c3, .slice A9 ln c9, ?_, ?_, ?_, ?_⟩
      · rw [hrs'.out, hqz]
      · exact ((hrH.out.kept (fun b hb => hC'.out.block b (by have := hb.2; omega) (fun e => by have e : b = w.heap.size := e; have := hb.1; omega))).kept (fun b hb => hCR.block b (by have := hb.2; omega) (fun e => by have e : b = w.heap.size + 1 := e; have := hb.1; omega))).mono (fun b hb => ⟨by have h : w2.heap.size ≤ b := hb.1; omega, by have h : b < Q := hb.2; exact Nat.lt_of_lt_of_le (show b < wr.heap.size by omega) hzR⟩)
      · rw [hrs'.out]
        exact (hv'.out.kept (fun g hg => hCR.block g (hv'.out.own g hg).2.choose_spec.lt (fun e => by have := (hv'.out.own g hg).1; have e : g = w.heap.size + 1 := e; omega))).mono (by omega)
      · exact (hBH.out.trans (hC'.out.below (B := w.heap.size) (fun k hk => Nat.le_of_eq hk.symm) hBH.out.size)).trans (hCR.below (B := w.heap.size) (fun k (hk : k = w.heap.size + 1) => by omega) (by have := hBH.out.size; omega))
end Go.Proofs.YtlcfpnegpihicaaGreatDoor

namespace Go.Proofs.YtlcfpnegpihicaaGreatDoor
open Go.RowKit Go.Shelf
attribute [local go_sem] Oper.semAt_some

/-! ## The document's Right, alone -/
/-- Has a text one of some bytes? -/
def hasB (s l : List UInt8) : Bool := s.any fun b => l.contains b
theorem hasB_all (s l : List UInt8) : (!hasB s l) = l.all fun b => !s.contains b := by
  rw [Bool.eq_iff_iff]
  unfold hasB
  simp only [Bool.not_eq_true', List.any_eq_false, List.all_eq_true, List.contains_iff_mem]
  constructor
  · intro h b hb
    cases hc : s.contains b with
    | false => rfl
    | true => exact absurd hb (h b (List.contains_iff_mem.1 hc))
  · intro h b hb hl
    have := h b hl
    rw [List.contains_iff_mem.2 hb] at this
    cases this
theorem hasB3 (t : List UInt8) : (!hasB t [0, 13, 10]) = (barL.take 3).all fun b => !t.contains b := by
  rw [hasB_all]
  simp only [barL, List.take, List.all_cons, List.all_nil, Bool.and_true]
  cases t.contains 0 <;> cases t.contains 13 <;> cases t.contains 10 <;> rfl
theorem hasB2 (t : List UInt8) : (!hasB t [13, 10]) = (barL.take 2).all fun b => !t.contains b := hasB_all _ _
theorem hasB1 (t : List UInt8) : (!hasB t [13]) = (barL.take 1).all fun b => !t.contains b := hasB_all _ _
/-- May an event be, as the document asks? -/
def refRight (e : Ev) : Bool := !hasB e.1 [0, 13, 10] && (!hasB e.2.1 [13, 10] && (!hasB e.2.2 [13] && (soundB e.1 && (soundB e.2.1 && soundB e.2.2))))
theorem refRight_eq (e : Ev) (h : e.1.length + e.2.1.length + e.2.2.length ≤ 65536) : refRight e = rightE e := by
  unfold refRight rightE fitsE cleanB
  rw [hasB3, hasB2, hasB1, decide_eq_true h]
  cases soundB e.1 <;> cases soundB e.2.1 <;> cases soundB e.2.2 <;> simp

theorem byE (l : List UInt8) (k : Nat) (__h : k < l.length) (h' : k < (⟨l.toArray⟩ : ByteArray).size) : ((⟨l.toArray⟩ : ByteArray)[k]'h') = l[k] := rfl
theorem not_in_next {b : UInt8} {l : List UInt8} {j : Nat} (h : b ∉ l.take j) (hj : j < l.length) (hne : b ≠ l[j]) : b ∉ l.take (j + 1) := by
  rw [List.take_succ_eq_append_getElem hj, List.mem_append, not_or]
  exact ⟨h, by simpa using hne⟩
theorem hasB_yes {s l : List UInt8} {k j : Nat} (hk : k < s.length) (hj : j < l.length) (h : s[k] = l[j]) : hasB s l = true := by
  unfold hasB
  exact List.any_eq_true.2 ⟨s[k], List.getElem_mem hk, List.contains_iff_mem.2 (h ▸ List.getElem_mem hj)⟩
theorem hasB_no {s l : List UInt8} (h : ∀ b ∈ s, b ∉ l) : hasB s l = false := by
  unfold hasB
  rw [List.any_eq_false]
  intro b hb hc
  exact h b hb (List.contains_iff_mem.1 hc)
set_option maxRecDepth 100000 in
set_option maxHeartbeats 1000000 in
theorem refHas_any (s l : List UInt8) (w : World) (hs : s.length ≤ 1000000) (hl : l.length ≤ 1000) : Calls Tryz.prog 36 #[.string ⟨s.toArray⟩, .string ⟨l.toArray⟩] w fun e w' => e = .returned (.bool (hasB s l)) ∧ Below w.heap.size w w' := by
  go_enter Tryz.func36, Tryz.ntmps36
  go_wp2_with fail
  go_loopw [5] (fun v W => ∃ k : Nat, v = .int .i64 (k : Int) ∧ k ≤ s.length ∧ (∀ b ∈ s.take k, b ∉ l) ∧ Below w.heap.size w W) (fun v _ => s.length - (intOf v).toNat)
  case atStart => exact ⟨0, rfl, Nat.zero_le _, fun b hb => by simp at hb, Below.refl _ _⟩
  case round =>
    obtain ⟨k, rfl, hk, hno, hb⟩ := hrel
    have hno' := Lib.hid hno
    have hb' := Lib.hid hb
    clear hno hb
    by_cases hlt : k < s.length
    · have hltI : (k : Int) < (s.length : Int) := by omega
      go_wp2_with fail
      go_loopw [6] (fun v W => ∃ j : Nat, v = .int .i64 (j : Int) ∧ j ≤ l.length ∧ s[k] ∉ l.take j ∧ Below w.heap.size w W) (fun v _ => l.length - (intOf v).toNat)
      case atStart => exact ⟨0, rfl, Nat.zero_le _, by simp, hb'.out⟩
      case round =>
        obtain ⟨j, rfl, hj, hnj, hbj⟩ := hrel
        have hnj' := Lib.hid hnj
        have hbj' := Lib.hid hbj
        clear hnj hbj hb'
        by_cases hjt : j < l.length
        · have hjtI : (j : Int) < (l.length : Int) := by omega
          by_cases he : s[k] = l[j]
          · have hne : ((((⟨s.toArray⟩ : ByteArray)[k]'hlt).toNat : Int) == (((⟨l.toArray⟩ : ByteArray)[j]'hjt).toNat : Int)) = true := by
              rw [byE s k hlt, byE l j hjt, he, beq_iff_eq]
            have hres := Lib.hid (hasB_yes hlt hjt he)
            clear he
            go_wp2_with fail
            go_quiet (fail)
            go_wp2_with fail
            go_ret
            exact ⟨by rw [hres.out]; rfl, below_draws hbj'.out _⟩
          · have hne : ((((⟨s.toArray⟩ : ByteArray)[k]'hlt).toNat : Int) == (((⟨l.toArray⟩ : ByteArray)[j]'hjt).toNat : Int)) = false := by
              rw [byE s k hlt, byE l j hjt, beq_eq_false_iff_ne]
              intro e
              exact he (UInt8.toNat_inj.1 (by omega))
            have hnx := Lib.hid (not_in_next hnj'.out hjt he)
            clear he
            go_wp2_with fail
            go_quiet (fail)
            go_wp2_with fail
            exact ⟨⟨j + 1, by go_num, by omega, hnx.out, below_draws hbj'.out _⟩, by simp [intOf]; omega⟩
        · obtain rfl : j = l.length := by omega
          have hnx := Lib.hid (show ∀ b ∈ s.take (k + 1), b ∉ l by
            intro b hb
            rw [List.take_succ_eq_append_getElem hlt, List.mem_append] at hb
            rcases hb with hb | hb
            · exact hno'.out b hb
            · obtain rfl : b = s[k] := by simpa using hb
              have := hnj'.out
              rwa [List.take_length] at this)
          go_wp2_with fail
          exact ⟨⟨k + 1, by go_num, by omega, hnx.out, hbj'.out⟩, by simp [intOf]; omega⟩
    · obtain rfl : k = s.length := by omega
      have hres := Lib.hid (hasB_no (s := s) (l := l) (by have := hno'.out; rwa [List.take_length] at this))
      go_wp2_with fail
      go_ret
      exact ⟨by rw [hres.out]; rfl, hb'.out⟩
theorem carryB {P : Program} {k : FuncId} {args : Array Value} {v : Value} (w0 w : World) (hb : Below w0.heap.size w0 w) (h : Calls P k args w fun e w' => e = .returned v ∧ Below w.heap.size w w') : Calls P k args w fun e w' => e = .returned v ∧ Below w0.heap.size w0 w' := by
  refine h.mono ?_
  rintro e w' ⟨rfl, h⟩
  exact ⟨rfl, hb.trans (h.mono hb.size)⟩
set_option maxRecDepth 100000 in
set_option maxHeartbeats 4000000 in
theorem refRightE_any (e : Ev) (w : World) (hl : e.1.length + e.2.1.length + e.2.2.length ≤ 65536) : Calls Tryz.prog 21 #[evV e] w fun r w' => r = .returned (.bool (rightE e)) ∧ Below w.heap.size w w' := by
  have hd : refRight e = rightE e := refRight_eq e hl
  obtain ⟨a, b, c⟩ := e
  simp only at hl
  have hb1 : Below w.heap.size w (w.alloc (.cells (evCells (a, b, c)) 37)) := (Below.refl _ _).alloc (Nat.le_refl _) _
  have hk := Has.new w 37 (evCells (a, b, c))
  have s1 := Lib.hid (fun W (hb : Below (w.alloc (.cells (evCells (a, b, c)) 37)).heap.size (w.alloc (.cells (evCells (a, b, c)) 37)) W) => carryB _ W hb (refSound_any ⟨a.toArray⟩ W (by show a.toArray.size ≤ _; simp; omega)))
  have s2 := Lib.hid (fun W (hb : Below (w.alloc (.cells (evCells (a, b, c)) 37)).heap.size (w.alloc (.cells (evCells (a, b, c)) 37)) W) => carryB _ W hb (refSound_any ⟨b.toArray⟩ W (by show b.toArray.size ≤ _; simp; omega)))
  have s3 := Lib.hid (fun W (hb : Below (w.alloc (.cells (evCells (a, b, c)) 37)).heap.size (w.alloc (.cells (evCells (a, b, c)) 37)) W) => carryB _ W hb (refSound_any ⟨c.toArray⟩ W (by show c.toArray.size ≤ _; simp; omega)))
  rw [show (⟨a.toArray⟩ : ByteArray).data.toList = a from rfl] at s1
  rw [show (⟨b.toArray⟩ : ByteArray).data.toList = b from rfl] at s2
  rw [show (⟨c.toArray⟩ : ByteArray).data.toList = c from rfl] at s3
  have t1 := Lib.hid (fun W (hb : Below (w.alloc (.cells (evCells (a, b, c)) 37)).heap.size (w.alloc (.cells (evCells (a, b, c)) 37)) W) => carryB _ W hb (refHas_any a [0, 13, 10] W (by omega) (by decide)))
  have t2 := Lib.hid (fun W (hb : Below (w.alloc (.cells (evCells (a, b, c)) 37)).heap.size (w.alloc (.cells (evCells (a, b, c)) 37)) W) => carryB _ W hb (refHas_any b [13, 10] W (by omega) (by decide)))
  have t3 := Lib.hid (fun W (hb : Below (w.alloc (.cells (evCells (a, b, c)) 37)).heap.size (w.alloc (.cells (evCells (a, b, c)) 37)) W) => carryB _ W hb (refHas_any c [13] W (by omega) (by decide)))
  have hall := fun W (hb : Below (w.alloc (.cells (evCells (a, b, c)) 37)).heap.size (w.alloc (.cells (evCells (a, b, c)) 37)) W) => hk.below hb hk.lt
  have hb1' := Lib.hid hb1
  have r1 : decide ((65536 : Int) < (a.length : Int)) = false := decide_eq_false (by omega)
  have r2 : decide ((65536 : Int) < (b.length : Int)) = false := decide_eq_false (by omega)
  have r3 : decide ((65536 : Int) < (c.length : Int)) = false := decide_eq_false (by omega)
  have r4 : decide ((65536 : Int) < (a.length : Int) + (b.length : Int) + (c.length : Int)) = false := decide_eq_false (by omega)
  have q1 : decide (65536 < a.length) = false := decide_eq_false (by omega)
  have q2 : decide (65536 < b.length) = false := decide_eq_false (by omega)
  have q3 : decide (65536 < c.length) = false := decide_eq_false (by omega)
  have q4 : decide (65536 < a.length + b.length + c.length) = false := decide_eq_false (by omega)
  have z0 := hk.cell 0
  have z1 := hk.cell 1
  have z2 := hk.cell 2
  unfold evV evCells at *
  simp only [World.size_alloc] at s1 s2 s3 t1 t2 t3 hall
  obtain ⟨wA, hwA⟩ : ∃ wA, w.alloc (.cells #[.string ⟨a.toArray⟩, .string ⟨b.toArray⟩, .string ⟨c.toArray⟩] 37) = wA := ⟨_, rfl⟩
  obtain ⟨nA, hnA⟩ : ∃ nA, w.heap.size = nA := ⟨_, rfl⟩
  rw [hwA] at s1 s2 s3 t1 t2 t3 hb1' hk z0 z1 z2 hall
  have hall' := Lib.hid hall
  have hd' := Lib.hid hd
  have hnA' := Lib.hid hnA
  have hwA' := Lib.hid hwA
  clear hb1 hall hd hk hnA hwA
  unfold refRight at hd'
  simp only at hd'
  obtain ⟨B1, e1⟩ : ∃ B1, hasB a [0, 13, 10] = B1 := ⟨_, rfl⟩
  obtain ⟨B2, e2⟩ : ∃ B2, hasB b [13, 10] = B2 := ⟨_, rfl⟩
  obtain ⟨B3, e3⟩ : ∃ B3, hasB c [13] = B3 := ⟨_, rfl⟩
  obtain ⟨B4, e4⟩ : ∃ B4, soundB a = B4 := ⟨_, rfl⟩
  obtain ⟨B5, e5⟩ : ∃ B5, soundB b = B5 := ⟨_, rfl⟩
  obtain ⟨B6, e6⟩ : ∃ B6, soundB c = B6 := ⟨_, rfl⟩
  rw [e1] at t1 hd'
  rw [e2] at t2 hd'
  rw [e3] at t3 hd'
  rw [e4] at s1 hd'
  rw [e5] at s2 hd'
  rw [e6] at s3 hd'
  clear e1 e2 e3 e4 e5 e6
  obtain ⟨R, hR⟩ : ∃ R, rightE (a, b, c) = R := ⟨_, rfl⟩
  rw [hR] at hd' ⊢
  clear hR
  cases B1 with
  | true =>
    go_enter Tryz.func21, Tryz.ntmps21
    go_wp2_with fail
    rw [hwA'.out]
    go_wp2_with (first
      | (go_at_call 36; (with_reducible refine Calls.mono (t1.out _ (Below.refl _ _)) ?_); rintro r y0 ⟨rfl, hd0⟩; have hc0 := Lib.hid hd0; clear hd0; have v0 := hall'.out _ hc0.out; have a0 := v0.cell 0; have b0 := v0.cell 1; have d0 := v0.cell 2; clear v0))
    go_ret
    refine ⟨by rw [← hd'.out]; rfl, ?_⟩
    exact hb1'.out.trans (hc0.out.mono (by simp))
  | false =>
    cases B2 with
    | true =>
      go_enter Tryz.func21, Tryz.ntmps21
      go_wp2_with fail
      rw [hwA'.out]
      go_wp2_with (first
        | (go_at_call 36; (with_reducible refine Calls.mono (t2.out _ hc0.out) ?_); rintro r y1 ⟨rfl, hd1⟩; have hc1 := Lib.hid hd1; clear hd1; have v1 := hall'.out _ hc1.out; have a1 := v1.cell 0; have b1 := v1.cell 1; have d1 := v1.cell 2; clear v1)
        | (go_at_call 36; (with_reducible refine Calls.mono (t1.out _ (Below.refl _ _)) ?_); rintro r y0 ⟨rfl, hd0⟩; have hc0 := Lib.hid hd0; clear hd0; have v0 := hall'.out _ hc0.out; have a0 := v0.cell 0; have b0 := v0.cell 1; have d0 := v0.cell 2; clear v0))
      go_ret
      refine ⟨by rw [← hd'.out]; rfl, ?_⟩
      exact hb1'.out.trans (hc1.out.mono (by simp))
    | false =>
      cases B3 with
      | true =>
        go_enter Tryz.func21, Tryz.ntmps21
        go_wp2_with fail
        rw [hwA'.out]
        go_wp2_with (first
          | (go_at_call 36; (with_reducible refine Calls.mono (t3.out _ hc1.out) ?_); rintro r y2 ⟨rfl, hd2⟩; have hc2 := Lib.hid hd2; clear hd2; have v2 := hall'.out _ hc2.out; have a2 := v2.cell 0; have b2 := v2.cell 1; have d2 := v2.cell 2; clear v2)
          | (go_at_call 36; (with_reducible refine Calls.mono (t2.out _ hc0.out) ?_); rintro r y1 ⟨rfl, hd1⟩; have hc1 := Lib.hid hd1; clear hd1; have v1 := hall'.out _ hc1.out; have a1 := v1.cell 0; have b1 := v1.cell 1; have d1 := v1.cell 2; clear v1)
          | (go_at_call 36; (with_reducible refine Calls.mono (t1.out _ (Below.refl _ _)) ?_); rintro r y0 ⟨rfl, hd0⟩; have hc0 := Lib.hid hd0; clear hd0; have v0 := hall'.out _ hc0.out; have a0 := v0.cell 0; have b0 := v0.cell 1; have d0 := v0.cell 2; clear v0))
        go_ret
        refine ⟨by rw [← hd'.out]; rfl, ?_⟩
        exact hb1'.out.trans (hc2.out.mono (by simp))
      | false =>
        cases B4 with
        | false =>
          go_enter Tryz.func21, Tryz.ntmps21
          go_wp2_with fail
          rw [hwA'.out]
          go_wp2_with (first
            | (go_at_call 37; (with_reducible refine Calls.mono (s1.out _ hc2.out) ?_); rintro r y3 ⟨rfl, hd3⟩; have hc3 := Lib.hid hd3; clear hd3; have v3 := hall'.out _ hc3.out; have a3 := v3.cell 0; have b3 := v3.cell 1; have d3 := v3.cell 2; clear v3)
            | (go_at_call 36; (with_reducible refine Calls.mono (t3.out _ hc1.out) ?_); rintro r y2 ⟨rfl, hd2⟩; have hc2 := Lib.hid hd2; clear hd2; have v2 := hall'.out _ hc2.out; have a2 := v2.cell 0; have b2 := v2.cell 1; have d2 := v2.cell 2; clear v2)
            | (go_at_call 36; (with_reducible refine Calls.mono (t2.out _ hc0.out) ?_); rintro r y1 ⟨rfl, hd1⟩; have hc1 := Lib.hid hd1; clear hd1; have v1 := hall'.out _ hc1.out; have a1 := v1.cell 0; have b1 := v1.cell 1; have d1 := v1.cell 2; clear v1)
            | (go_at_call 36; (with_reducible refine Calls.mono (t1.out _ (Below.refl _ _)) ?_); rintro r y0 ⟨rfl, hd0⟩; have hc0 := Lib.hid hd0; clear hd0; have v0 := hall'.out _ hc0.out; have a0 := v0.cell 0; have b0 := v0.cell 1; have d0 := v0.cell 2; clear v0))
          go_ret
          refine ⟨by rw [← hd'.out]; rfl, ?_⟩
          exact hb1'.out.trans (hc3.out.mono (by simp))
        | true =>
          cases B5 with
          | false =>
            go_enter Tryz.func21, Tryz.ntmps21
            go_wp2_with fail
            rw [hwA'.out]
            go_wp2_with (first
              | (go_at_call 37; (with_reducible refine Calls.mono (s2.out _ hc3.out) ?_); rintro r y4 ⟨rfl, hd4⟩; have hc4 := Lib.hid hd4; clear hd4; have v4 := hall'.out _ hc4.out; have a4 := v4.cell 0; have b4 := v4.cell 1; have d4 := v4.cell 2; clear v4)
              | (go_at_call 37; (with_reducible refine Calls.mono (s1.out _ hc2.out) ?_); rintro r y3 ⟨rfl, hd3⟩; have hc3 := Lib.hid hd3; clear hd3; have v3 := hall'.out _ hc3.out; have a3 := v3.cell 0; have b3 := v3.cell 1; have d3 := v3.cell 2; clear v3)
              | (go_at_call 36; (with_reducible refine Calls.mono (t3.out _ hc1.out) ?_); rintro r y2 ⟨rfl, hd2⟩; have hc2 := Lib.hid hd2; clear hd2; have v2 := hall'.out _ hc2.out; have a2 := v2.cell 0; have b2 := v2.cell 1; have d2 := v2.cell 2; clear v2)
              | (go_at_call 36; (with_reducible refine Calls.mono (t2.out _ hc0.out) ?_); rintro r y1 ⟨rfl, hd1⟩; have hc1 := Lib.hid hd1; clear hd1; have v1 := hall'.out _ hc1.out; have a1 := v1.cell 0; have b1 := v1.cell 1; have d1 := v1.cell 2; clear v1)
              | (go_at_call 36; (with_reducible refine Calls.mono (t1.out _ (Below.refl _ _)) ?_); rintro r y0 ⟨rfl, hd0⟩; have hc0 := Lib.hid hd0; clear hd0; have v0 := hall'.out _ hc0.out; have a0 := v0.cell 0; have b0 := v0.cell 1; have d0 := v0.cell 2; clear v0))
            go_ret
            refine ⟨by rw [← hd'.out]; rfl, ?_⟩
            exact hb1'.out.trans (hc4.out.mono (by simp))
          | true =>
            cases B6 with
            | false =>
              go_enter Tryz.func21, Tryz.ntmps21
              go_wp2_with fail
              rw [hwA'.out]
              go_wp2_with (first
                | (go_at_call 37; (with_reducible refine Calls.mono (s3.out _ hc4.out) ?_); rintro r y5 ⟨rfl, hd5⟩; have hc5 := Lib.hid hd5; clear hd5)
                | (go_at_call 37; (with_reducible refine Calls.mono (s2.out _ hc3.out) ?_); rintro r y4 ⟨rfl, hd4⟩; have hc4 := Lib.hid hd4; clear hd4; have v4 := hall'.out _ hc4.out; have a4 := v4.cell 0; have b4 := v4.cell 1; have d4 := v4.cell 2; clear v4)
                | (go_at_call 37; (with_reducible refine Calls.mono (s1.out _ hc2.out) ?_); rintro r y3 ⟨rfl, hd3⟩; have hc3 := Lib.hid hd3; clear hd3; have v3 := hall'.out _ hc3.out; have a3 := v3.cell 0; have b3 := v3.cell 1; have d3 := v3.cell 2; clear v3)
                | (go_at_call 36; (with_reducible refine Calls.mono (t3.out _ hc1.out) ?_); rintro r y2 ⟨rfl, hd2⟩; have hc2 := Lib.hid hd2; clear hd2; have v2 := hall'.out _ hc2.out; have a2 := v2.cell 0; have b2 := v2.cell 1; have d2 := v2.cell 2; clear v2)
                | (go_at_call 36; (with_reducible refine Calls.mono (t2.out _ hc0.out) ?_); rintro r y1 ⟨rfl, hd1⟩; have hc1 := Lib.hid hd1; clear hd1; have v1 := hall'.out _ hc1.out; have a1 := v1.cell 0; have b1 := v1.cell 1; have d1 := v1.cell 2; clear v1)
                | (go_at_call 36; (with_reducible refine Calls.mono (t1.out _ (Below.refl _ _)) ?_); rintro r y0 ⟨rfl, hd0⟩; have hc0 := Lib.hid hd0; clear hd0; have v0 := hall'.out _ hc0.out; have a0 := v0.cell 0; have b0 := v0.cell 1; have d0 := v0.cell 2; clear v0))
              go_ret
              refine ⟨by rw [← hd'.out]; rfl, ?_⟩
              exact hb1'.out.trans (hc5.out.mono (by simp))
            | true =>
              go_enter Tryz.func21, Tryz.ntmps21
              go_wp2_with fail
              rw [hwA'.out]
              go_wp2_with (first
                | (go_at_call 37; (with_reducible refine Calls.mono (s3.out _ hc4.out) ?_); rintro r y5 ⟨rfl, hd5⟩; have hc5 := Lib.hid hd5; clear hd5)
                | (go_at_call 37; (with_reducible refine Calls.mono (s2.out _ hc3.out) ?_); rintro r y4 ⟨rfl, hd4⟩; have hc4 := Lib.hid hd4; clear hd4; have v4 := hall'.out _ hc4.out; have a4 := v4.cell 0; have b4 := v4.cell 1; have d4 := v4.cell 2; clear v4)
                | (go_at_call 37; (with_reducible refine Calls.mono (s1.out _ hc2.out) ?_); rintro r y3 ⟨rfl, hd3⟩; have hc3 := Lib.hid hd3; clear hd3; have v3 := hall'.out _ hc3.out; have a3 := v3.cell 0; have b3 := v3.cell 1; have d3 := v3.cell 2; clear v3)
                | (go_at_call 36; (with_reducible refine Calls.mono (t3.out _ hc1.out) ?_); rintro r y2 ⟨rfl, hd2⟩; have hc2 := Lib.hid hd2; clear hd2; have v2 := hall'.out _ hc2.out; have a2 := v2.cell 0; have b2 := v2.cell 1; have d2 := v2.cell 2; clear v2)
                | (go_at_call 36; (with_reducible refine Calls.mono (t2.out _ hc0.out) ?_); rintro r y1 ⟨rfl, hd1⟩; have hc1 := Lib.hid hd1; clear hd1; have v1 := hall'.out _ hc1.out; have a1 := v1.cell 0; have b1 := v1.cell 1; have d1 := v1.cell 2; clear v1)
                | (go_at_call 36; (with_reducible refine Calls.mono (t1.out _ (Below.refl _ _)) ?_); rintro r y0 ⟨rfl, hd0⟩; have hc0 := Lib.hid hd0; clear hd0; have v0 := hall'.out _ hc0.out; have a0 := v0.cell 0; have b0 := v0.cell 1; have d0 := v0.cell 2; clear v0))
              go_ret
              refine ⟨by rw [← hd'.out]; rfl, ?_⟩
              exact hb1'.out.trans (hc5.out.mono (by simp))
end Go.Proofs.YtlcfpnegpihicaaGreatDoor

namespace Go.Proofs.YtlcfpnegpihicaaGreatDoor
open Go.RowKit Go.Shelf
attribute [local go_sem] Oper.semAt_some

/-! ## The document's Reset -/
set_option maxRecDepth 100000 in
set_option maxHeartbeats 2000000 in
theorem refResetPs_no (A : Option Addr) (n c l m : Nat) (line id : List UInt8) (any half : Bool) (r : RfS) (w : World) (h1 : 1 ≤ l) (h2 : l ≤ 65536) (h3 : 1 ≤ m) (h4 : m ≤ 65536) (hid : id.length ≤ 65536) (hr : rightE (id, [], []) = false) :
    Calls Tryz.prog 14 #[.agg (rpC A n c l m line any half r), .string ⟨id.toArray⟩] w fun e w' => e = .returned (.tuple #[.agg (rpC A n c l m line any half r), .int .i64 2]) ∧ Below w.heap.size w w' := by
  have hB : Below w.heap.size w ((w.alloc (.cells #[.slice A n c, .int .i64 (l : Int), .string ⟨line.toArray⟩, .bool any, .bool half, .int .i64 (m : Int), .string ⟨r.id.toArray⟩, .string ⟨r.type.toArray⟩, .string ⟨r.data.toArray⟩, .bool r.some, .bool r.long] 51)).alloc (.cells #[.slice none 0 0, .int .i64 0, .string ⟨#[]⟩, .bool false, .bool false, .int .i64 0, .string ⟨#[]⟩, .string ⟨#[]⟩, .string ⟨#[]⟩, .bool false, .bool false] 51)) := ((Below.refl _ _).alloc (Nat.le_refl _) _).alloc (by simp) _
  have kP := (Has.new w 51 #[.slice A n c, .int .i64 (l : Int), .string ⟨line.toArray⟩, .bool any, .bool half, .int .i64 (m : Int), .string ⟨r.id.toArray⟩, .string ⟨r.type.toArray⟩, .string ⟨r.data.toArray⟩, .bool r.some, .bool r.long]).alloc (.cells #[.slice none 0 0, .int .i64 0, .string ⟨#[]⟩, .bool false, .bool false, .int .i64 0, .string ⟨#[]⟩, .string ⟨#[]⟩, .string ⟨#[]⟩, .bool false, .bool false] 51)
  have kR := Has.new (w.alloc (.cells #[.slice A n c, .int .i64 (l : Int), .string ⟨line.toArray⟩, .bool any, .bool half, .int .i64 (m : Int), .string ⟨r.id.toArray⟩, .string ⟨r.type.toArray⟩, .string ⟨r.data.toArray⟩, .bool r.some, .bool r.long] 51)) 51 #[.slice none 0 0, .int .i64 0, .string ⟨#[]⟩, .bool false, .bool false, .int .i64 0, .string ⟨#[]⟩, .string ⟨#[]⟩, .string ⟨#[]⟩, .bool false, .bool false]
  simp only [World.size_alloc] at kR
  obtain ⟨w2, hw2⟩ : ∃ w2, (w.alloc (.cells #[.slice A n c, .int .i64 (l : Int), .string ⟨line.toArray⟩, .bool any, .bool half, .int .i64 (m : Int), .string ⟨r.id.toArray⟩, .string ⟨r.type.toArray⟩, .string ⟨r.data.toArray⟩, .bool r.some, .bool r.long] 51)).alloc (.cells #[.slice none 0 0, .int .i64 0, .string ⟨#[]⟩, .bool false, .bool false, .int .i64 0, .string ⟨#[]⟩, .string ⟨#[]⟩, .string ⟨#[]⟩, .bool false, .bool false] 51) = w2 := ⟨_, rfl⟩
  have hz2 : w2.heap.size = w.heap.size + 1 + 1 := by rw [← hw2]; simp
  rw [hw2] at hB kP kR
  have hrr := refRightE_any (id, [], []) w2 (by simp; omega)
  rw [hr] at hrr
  unfold evV evCells at hrr
  have hrr' := Lib.hid hrr
  have hw2' := Lib.hid hw2
  have hB' := Lib.hid hB
  have kP' := Lib.hid kP
  have kR' := Lib.hid kR
  clear hB kP kR hw2 hrr hr
  unfold rpC
  go_enter Tryz.func14, Tryz.ntmps14
  go_upto_region 1 with (fail)
  rw [hw2'.out]
  clear hw2'
  go_upto_region 2 with (go_at_call 21; (with_reducible refine Calls.mono hrr'.out ?_); rintro e w3 ⟨rfl, hb⟩; have kP3 := kP'.out.below hb kP'.out.lt; have kR3 := kR'.out.below hb kR'.out.lt; have hB3 := hB'.out.trans (hb.mono hB'.out.size); have kPH := Lib.hid kP3; have kRH := Lib.hid kR3; have hBH := Lib.hid hB3; clear hb kP3 kR3 hB3)
  have p0 := kPH.out.cell 0
  have g0 := kRH.out.cell 0
  have f0 := kRH.out.free 0
  have p1 := kPH.out.cell 1
  have g1 := kRH.out.cell 1
  have f1 := kRH.out.free 1
  have p2 := kPH.out.cell 2
  have g2 := kRH.out.cell 2
  have f2 := kRH.out.free 2
  have p3 := kPH.out.cell 3
  have g3 := kRH.out.cell 3
  have f3 := kRH.out.free 3
  have p4 := kPH.out.cell 4
  have g4 := kRH.out.cell 4
  have f4 := kRH.out.free 4
  have p5 := kPH.out.cell 5
  have g5 := kRH.out.cell 5
  have f5 := kRH.out.free 5
  have p6 := kPH.out.cell 6
  have g6 := kRH.out.cell 6
  have f6 := kRH.out.free 6
  have p7 := kPH.out.cell 7
  have g7 := kRH.out.cell 7
  have f7 := kRH.out.free 7
  have p8 := kPH.out.cell 8
  have g8 := kRH.out.cell 8
  have f8 := kRH.out.free 8
  have p9 := kPH.out.cell 9
  have g9 := kRH.out.cell 9
  have f9 := kRH.out.free 9
  have p10 := kPH.out.cell 10
  have g10 := kRH.out.cell 10
  have f10 := kRH.out.free 10
  go_wp2
  have kF := has_set11 kRH.out (.slice A n c) (.int .i64 (l : Int)) (.string ⟨line.toArray⟩) (.bool any) (.bool half) (.int .i64 (m : Int)) (.string ⟨r.id.toArray⟩) (.string ⟨r.type.toArray⟩) (.string ⟨r.data.toArray⟩) (.bool r.some) (.bool r.long)
  have x0 := kF.cell 0
  have x1 := kF.cell 1
  have x2 := kF.cell 2
  have x3 := kF.cell 3
  have x4 := kF.cell 4
  have x5 := kF.cell 5
  have x6 := kF.cell 6
  have x7 := kF.cell 7
  have x8 := kF.cell 8
  have x9 := kF.cell 9
  have x10 := kF.cell 10
  have hC := chg_set11 w3 (w.heap.size + 1) (.slice A n c) (.int .i64 (l : Int)) (.string ⟨line.toArray⟩) (.bool any) (.bool half) (.int .i64 (m : Int)) (.string ⟨r.id.toArray⟩) (.string ⟨r.type.toArray⟩) (.string ⟨r.data.toArray⟩) (.bool r.some) (.bool r.long)
  refine bodyPost_ret (v := .tuple #[.agg #[.slice A n c, .int .i64 (l : Int), .string ⟨line.toArray⟩, .bool any, .bool half, .int .i64 (m : Int), .string ⟨r.id.toArray⟩, .string ⟨r.type.toArray⟩, .string ⟨r.data.toArray⟩, .bool r.some, .bool r.long], .int .i64 2]) (by simp [results, Tryz.results14, go_sem, x0, x1, x2, x3, x4, x5, x6, x7, x8, x9, x10]) rfl ⟨rfl, ?_⟩
  exact hBH.out.trans (hC.below (B := w.heap.size) (fun k (hk : k = w.heap.size + 1) => by omega) hBH.out.size)
set_option maxRecDepth 100000 in
set_option maxHeartbeats 2000000 in
theorem refResetPs_yes (A : Option Addr) (n c l m : Nat) (line id : List UInt8) (any half : Bool) (r : RfS) (w : World) (h1 : 1 ≤ l) (h2 : l ≤ 65536) (h3 : 1 ≤ m) (h4 : m ≤ 65536) (hid : id.length ≤ 65536) (hr : rightE (id, [], []) = true) :
    Calls Tryz.prog 14 #[.agg (rpC A n c l m line any half r), .string ⟨id.toArray⟩] w fun e w' => e = .returned (.tuple #[.agg (rpC none 0 0 l m [] false false (rfNew id)), .int .i64 0]) ∧ Below w.heap.size w w' := by
  have hB : Below w.heap.size w ((w.alloc (.cells #[.slice A n c, .int .i64 (l : Int), .string ⟨line.toArray⟩, .bool any, .bool half, .int .i64 (m : Int), .string ⟨r.id.toArray⟩, .string ⟨r.type.toArray⟩, .string ⟨r.data.toArray⟩, .bool r.some, .bool r.long] 51)).alloc (.cells #[.slice none 0 0, .int .i64 0, .string ⟨#[]⟩, .bool false, .bool false, .int .i64 0, .string ⟨#[]⟩, .string ⟨#[]⟩, .string ⟨#[]⟩, .bool false, .bool false] 51)) := ((Below.refl _ _).alloc (Nat.le_refl _) _).alloc (by simp) _
  have kP := (Has.new w 51 #[.slice A n c, .int .i64 (l : Int), .string ⟨line.toArray⟩, .bool any, .bool half, .int .i64 (m : Int), .string ⟨r.id.toArray⟩, .string ⟨r.type.toArray⟩, .string ⟨r.data.toArray⟩, .bool r.some, .bool r.long]).alloc (.cells #[.slice none 0 0, .int .i64 0, .string ⟨#[]⟩, .bool false, .bool false, .int .i64 0, .string ⟨#[]⟩, .string ⟨#[]⟩, .string ⟨#[]⟩, .bool false, .bool false] 51)
  have kR := Has.new (w.alloc (.cells #[.slice A n c, .int .i64 (l : Int), .string ⟨line.toArray⟩, .bool any, .bool half, .int .i64 (m : Int), .string ⟨r.id.toArray⟩, .string ⟨r.type.toArray⟩, .string ⟨r.data.toArray⟩, .bool r.some, .bool r.long] 51)) 51 #[.slice none 0 0, .int .i64 0, .string ⟨#[]⟩, .bool false, .bool false, .int .i64 0, .string ⟨#[]⟩, .string ⟨#[]⟩, .string ⟨#[]⟩, .bool false, .bool false]
  simp only [World.size_alloc] at kR
  obtain ⟨w2, hw2⟩ : ∃ w2, (w.alloc (.cells #[.slice A n c, .int .i64 (l : Int), .string ⟨line.toArray⟩, .bool any, .bool half, .int .i64 (m : Int), .string ⟨r.id.toArray⟩, .string ⟨r.type.toArray⟩, .string ⟨r.data.toArray⟩, .bool r.some, .bool r.long] 51)).alloc (.cells #[.slice none 0 0, .int .i64 0, .string ⟨#[]⟩, .bool false, .bool false, .int .i64 0, .string ⟨#[]⟩, .string ⟨#[]⟩, .string ⟨#[]⟩, .bool false, .bool false] 51) = w2 := ⟨_, rfl⟩
  have hz2 : w2.heap.size = w.heap.size + 1 + 1 := by rw [← hw2]; simp
  rw [hw2] at hB kP kR
  have hrr := refRightE_any (id, [], []) w2 (by simp; omega)
  rw [hr] at hrr
  unfold evV evCells at hrr
  have hrr' := Lib.hid hrr
  have hw2' := Lib.hid hw2
  have hB' := Lib.hid hB
  have kP' := Lib.hid kP
  have kR' := Lib.hid kR
  clear hB kP kR hw2 hrr hr
  have hn0 := fun W => refNewPs_yes l m W h1 h2 h3 h4
  unfold rpC rfNew at hn0
  have hn := Lib.hid hn0
  clear hn0
  unfold rpC
  go_enter Tryz.func14, Tryz.ntmps14
  go_upto_region 1 with (fail)
  rw [hw2'.out]
  clear hw2'
  go_upto_region 3 with (go_at_call 21; (with_reducible refine Calls.mono hrr'.out ?_); rintro e w3 ⟨rfl, hb⟩; have kP3 := kP'.out.below hb kP'.out.lt; have kR3 := kR'.out.below hb kR'.out.lt; have hB3 := hB'.out.trans (hb.mono hB'.out.size); have kPH := Lib.hid kP3; have kRH := Lib.hid kR3; have hBH := Lib.hid hB3; clear hb kP3 kR3 hB3)
  have p1 := kPH.out.cell 1
  have p5 := kPH.out.cell 5
  go_upto_region 4 with (go_at_call 13; (with_reducible refine Calls.mono (hn.out _) ?_); rintro e w4 ⟨rfl, hb⟩; have kR4 := kRH.out.below hb kRH.out.lt; have hB4 := hBH.out.trans (hb.mono hBH.out.size); have hRl := kR4.lt; have kR5 := kR4.alloc (.cells #[.slice none 0 0, .int .i64 (l : Int), .string ⟨#[]⟩, .bool false, .bool false, .int .i64 (m : Int), .string ⟨#[]⟩, .string ⟨#[]⟩, .string ⟨#[]⟩, .bool false, .bool false] 51); have hB5 := hB4.alloc hB4.size (.cells #[.slice none 0 0, .int .i64 (l : Int), .string ⟨#[]⟩, .bool false, .bool false, .int .i64 (m : Int), .string ⟨#[]⟩, .string ⟨#[]⟩, .string ⟨#[]⟩, .bool false, .bool false] 51); have kN := Has.new w4 51 #[.slice none 0 0, .int .i64 (l : Int), .string ⟨#[]⟩, .bool false, .bool false, .int .i64 (m : Int), .string ⟨#[]⟩, .string ⟨#[]⟩, .string ⟨#[]⟩, .bool false, .bool false]; have kRH := Lib.hid kR5; have hBH := Lib.hid hB5; have kNH := Lib.hid kN; clear hb kR4 hB4 kR5 hB5 kN p1 p5)
  obtain ⟨K, hK⟩ : ∃ K, w4.heap.size = K := ⟨_, rfl⟩
  obtain ⟨w5, hw5⟩ : ∃ w5, w4.alloc (.cells #[.slice none 0 0, .int .i64 (l : Int), .string ⟨#[]⟩, .bool false, .bool false, .int .i64 (m : Int), .string ⟨#[]⟩, .string ⟨#[]⟩, .string ⟨#[]⟩, .bool false, .bool false] 51) = w5 := ⟨_, rfl⟩
  have kN := kNH.out
  have kR := kRH.out
  have hB := hBH.out
  rw [hw5] at kN kR hB ⊢
  rw [hK] at kN hRl ⊢
  clear hw5 kNH kRH hBH
  have n6 := kN.cell 6
  have j6 := kN.free 6
  have kN6 := kN.put 6 (.string ⟨id.toArray⟩)
  have kR6 := kR.other (j := K) (i := 6) (by omega) (.string ⟨id.toArray⟩)
  have hB6 := hB.setCell (p := ⟨K, 6, none⟩) (by show w.heap.size ≤ K; omega) (.string ⟨id.toArray⟩)
  obtain ⟨w6, hw6⟩ : ∃ w6, w5.setCell ⟨K, 6, none⟩ (.string ⟨id.toArray⟩) = w6 := ⟨_, rfl⟩
  rw [hw6] at kN6 kR6 hB6
  have hw6' := Lib.hid hw6
  have kNH := Lib.hid kN6
  have kRH := Lib.hid kR6
  have hBH := Lib.hid hB6
  clear kN kR hB kN6 kR6 hB6 hw6
  go_upto_region 5 with (fail)
  rw [hw6'.out]
  clear hw6' n6 j6
  have p0 := kNH.out.cell 0
  have g0 := kRH.out.cell 0
  have f0 := kRH.out.free 0
  have p1 := kNH.out.cell 1
  have g1 := kRH.out.cell 1
  have f1 := kRH.out.free 1
  have p2 := kNH.out.cell 2
  have g2 := kRH.out.cell 2
  have f2 := kRH.out.free 2
  have p3 := kNH.out.cell 3
  have g3 := kRH.out.cell 3
  have f3 := kRH.out.free 3
  have p4 := kNH.out.cell 4
  have g4 := kRH.out.cell 4
  have f4 := kRH.out.free 4
  have p5 := kNH.out.cell 5
  have g5 := kRH.out.cell 5
  have f5 := kRH.out.free 5
  have p6 := kNH.out.cell 6
  have g6 := kRH.out.cell 6
  have f6 := kRH.out.free 6
  have p7 := kNH.out.cell 7
  have g7 := kRH.out.cell 7
  have f7 := kRH.out.free 7
  have p8 := kNH.out.cell 8
  have g8 := kRH.out.cell 8
  have f8 := kRH.out.free 8
  have p9 := kNH.out.cell 9
  have g9 := kRH.out.cell 9
  have f9 := kRH.out.free 9
  have p10 := kNH.out.cell 10
  have g10 := kRH.out.cell 10
  have f10 := kRH.out.free 10
  go_wp2
  have kF := has_set11 kRH.out (.slice none 0 0) (.int .i64 (l : Int)) (.string ⟨#[]⟩) (.bool false) (.bool false) (.int .i64 (m : Int)) (.string ⟨id.toArray⟩) (.string ⟨#[]⟩) (.string ⟨#[]⟩) (.bool false) (.bool false)
  have x0 := kF.cell 0
  have x1 := kF.cell 1
  have x2 := kF.cell 2
  have x3 := kF.cell 3
  have x4 := kF.cell 4
  have x5 := kF.cell 5
  have x6 := kF.cell 6
  have x7 := kF.cell 7
  have x8 := kF.cell 8
  have x9 := kF.cell 9
  have x10 := kF.cell 10
  have hC := chg_set11 w6 (w.heap.size + 1) (.slice none 0 0) (.int .i64 (l : Int)) (.string ⟨#[]⟩) (.bool false) (.bool false) (.int .i64 (m : Int)) (.string ⟨id.toArray⟩) (.string ⟨#[]⟩) (.string ⟨#[]⟩) (.bool false) (.bool false)
  refine bodyPost_ret (v := .tuple #[.agg #[.slice none 0 0, .int .i64 (l : Int), .string ⟨#[]⟩, .bool false, .bool false, .int .i64 (m : Int), .string ⟨id.toArray⟩, .string ⟨#[]⟩, .string ⟨#[]⟩, .bool false, .bool false], .int .i64 0]) (by simp [results, Tryz.results14, go_sem, x0, x1, x2, x3, x4, x5, x6, x7, x8, x9, x10]) rfl ⟨rfl, ?_⟩
  exact hBH.out.trans (hC.below (B := w.heap.size) (fun k (hk : k = w.heap.size + 1) => by omega) hBH.out.size)
end Go.Proofs.YtlcfpnegpihicaaGreatDoor

namespace Go.Proofs.YtlcfpnegpihicaaGreatDoor
open Go.RowKit Go.Shelf
attribute [local go_sem] Oper.semAt_some

/-! ## The law of a parser, piece by piece: what it rests on -/
theorem right_id {id : List UInt8} (h : rightE (id, [], []) = true) : SoundL id ∧ ∀ c ∈ id, c ≠ 13 ∧ c ≠ 10 ∧ c ≠ 0 := by
  unfold rightE at h
  simp only [Bool.and_eq_true] at h
  have h3 := h.2.1
  have hn := fun b hb => cleanB_no h3 b hb
  unfold cleanB at h3
  simp only [Bool.and_eq_true] at h3
  refine ⟨of_decide_eq_true h3.1, fun c hc => ⟨?_, ?_, ?_⟩⟩
  · rintro rfl
    exact hn 13 (by decide) hc
  · rintro rfl
    exact hn 10 (by decide) hc
  · rintro rfl
    exact hn 0 (by decide) hc
theorem ChP.low {W : World} {nb p sp dp most m : Nat} {dv : Value} {ob : Option Nat} {c : CSt} {s : PrS} (h : PsAt W nb p sp dp most m dv ob c s) (hn : nb ≤ p ∧ nb ≤ sp ∧ nb ≤ dp) {k : Nat} (hk : ChP sp dp p ob dv.ownBlock k) : nb ≤ k := by
  obtain ⟨_, _, _, l4⟩ := h.spl.lt
  rcases hk with (rfl | rfl | hk) | rfl | hk
  · exact hn.2.1
  · exact hn.2.2
  · exact (l4 k hk).2.2.2
  · exact hn.1
  · exact (h.data.own k hk).1
theorem PsAt.chg {W W' : World} {S : Nat → Prop} {nb p sp dp most m : Nat} {dv : Value} {ob : Option Nat} {c : CSt} {s : PrS} (h : PsAt W nb p sp dp most m dv ob c s) (hc : Chg S W W') (hS : ∀ k, ChP sp dp p ob dv.ownBlock k → ¬ S k) : PsAt W' nb p sp dp most m dv ob c s :=
  ⟨hc.has (hS p (.inr (.inl rfl))) h.pr, h.data.kept (fun g hg => hc.block g (h.data.own g hg).2.choose_spec.lt (hS g (.inr (.inr hg)))), h.spl.chg hc (hS sp (.inl (.inl rfl))) (hS dp (.inl (.inr (.inl rfl)))) (fun k hk => hS k (.inl (.inr (.inr hk)))), h.apart⟩
/-- The document's box is no block of the parser's. -/
theorem psAt_ne {W : World} {nb p sp dp most m q : Nat} {dv : Value} {ob : Option Nat} {c : CSt} {s : PrS} {cs : Array Value} (h : PsAt W nb p sp dp most m dv ob c s) (hq : Has W q 51 cs) : ¬ ChP sp dp p ob dv.ownBlock q := by
  obtain ⟨vb, a1, a2, a3, a4⟩ := h.spl
  obtain ⟨_, hd⟩ := a3.typed
  rintro ((rfl | rfl | hk) | rfl | hk)
  · exact hq.apart a1 (by decide) rfl
  · exact hq.apart hd (by decide) rfl
  · obtain ⟨_, _, h8⟩ := a2.own q (a4.trans hk)
    exact hq.apart h8 (by decide) rfl
  · exact hq.apart h.pr (by decide) rfl
  · obtain ⟨_, _, h8⟩ := h.data.own q hk
    exact hq.apart h8 (by decide) rfl
/-- How both parsers stand. -/
def StP (w : World) (q l m p : Nat) (r : RSt) (rf : RfS) (s : PrS) (W : World) : Prop :=
  ∃ sp dp dv ob A c, PsAt W w.heap.size p sp dp l m dv ob (absC l r) s ∧ (w.heap.size ≤ p ∧ w.heap.size ≤ sp ∧ w.heap.size ≤ dp) ∧ Below w.heap.size w W ∧ w.heap.size ≤ q ∧
    Has W q 51 (rpC A r.ws.length c l m r.line r.any r.half rf) ∧ Rd W (fun b => b < W.heap.size ∧ b ≠ q ∧ ¬ ChP sp dp p ob dv.ownBlock b) A r.ws ∧
    (r.line.length ≤ l + 4 ∧ r.ws.length ≤ 3) ∧ (absC l r).ok l ∧ RelP s rf ∧ s.ok m l ∧ s.last.length ≤ 1000000
theorem StP.below {w W W' : World} {q l m p : Nat} {r : RSt} {rf : RfS} {s : PrS} (h : StP w q l m p r rf s W) (hb : Below W.heap.size W W') : StP w q l m p r rf s W' := by
  obtain ⟨sp, dp, dv, ob, A, c, h1, h2, h3, h4, h5, h6, h7, h8, h9, h10, h11⟩ := h
  exact ⟨sp, dp, dv, ob, A, c, h1.below hb, h2, h3.trans (hb.mono h3.size), h4, h5.below hb h5.lt, (h6.kept (Kept.below hb (fun b hb => hb.1))).mono (fun b hb' => ⟨Nat.lt_of_lt_of_le hb'.1 hb.size, hb'.2⟩), h7, h8, h9, h10, h11⟩
/-- Pieces: bytes, whether it is reset ahead, whether a copy goes on, an id. -/
abbrev Pc := List UInt8 × Bool × Bool × List UInt8
def LP (W : World) (A : Option Addr) (xs : List Pc) : Prop :=
  0 < xs.length → ∃ b o, A = some ⟨b, o, none⟩ ∧ b < W.heap.size ∧ ∀ i x, xs[i]? = some x → ∃ Ai ci, (W.cell? ⟨b, o + i * 4, none⟩ = some (.slice Ai x.1.length ci) ∧ W.cell? ⟨b, o + i * 4 + 1, none⟩ = some (.bool x.2.1) ∧ W.cell? ⟨b, o + i * 4 + 2, none⟩ = some (.bool x.2.2.1) ∧ W.cell? ⟨b, o + i * 4 + 3, none⟩ = some (.string ⟨x.2.2.2.toArray⟩)) ∧ x.1.length ≤ ci ∧ ci ≤ 9223372036854775807 ∧ Rd W (· < W.heap.size) Ai x.1 ∧ x.2.2.2.length ≤ maxLen
theorem rd_belowP {W W' : World} {A : Option Addr} {l : List UInt8} (h : Rd W (· < W.heap.size) A l) {B : Nat} (hb : Below B W W') (hB : W.heap.size ≤ B) : Rd W' (· < W'.heap.size) A l :=
  (h.kept (Kept.below (hb.mono hB) (fun _ h => h))).mono (fun b (h : b < W.heap.size) => Nat.lt_of_lt_of_le h hb.size)
set_option maxRecDepth 100000 in
theorem writePs_none (v A : Option Addr) (n c : Nat) (w : World) (h : NoP w v) : Calls Tryz.prog 17 #[.pointer v, .slice A n c] w fun e w' => e = .returned (.tuple #[.slice none 0 0, .int .i64 1]) ∧ Below w.heap.size w w' := by
  have hn := Lib.hid (pNone_yes v w h)
  clear h
  go_enter Tryz.func17, Tryz.ntmps17
  go_wp2_with (go_at_call 29; (with_reducible refine Calls.mono hn.out ?_); rintro e w1 ⟨rfl, rfl⟩)
  go_ret2
  exact ⟨rfl, Below.refl _ _⟩
end Go.Proofs.YtlcfpnegpihicaaGreatDoor

namespace Go.Proofs.YtlcfpnegpihicaaGreatDoor
open Go.ChangeShapes Go.WideShapes Go.ChangeAt Go.RowKit Go.Deep Go.Joins

/-! ## Pieces that came in, opened -/
section
variable {H : Type} {enc : TypeId × Value → H}
theorem bytes_valP {W : World} {held : Bool} {fuel : Nat} {v : Value} {y : DataW H × List MemPlace} (h : DataW.trod enc Tryz.prog W 0 (fun _ => true) held fuel 22 [v] = some y) :
    ∃ (A : Option Addr) (l : List UInt8) (c : Nat), v = .slice A l.length c ∧ l.length ≤ c ∧ c ≤ 9223372036854775807 ∧ Rd W (· < W.heap.size) A l := by
  have h' := h
  rcases open_ints Tryz.underlying22 Tryz.underlying5 cells8 h with ⟨hcs, _⟩ | ⟨a, n, c, zs, hcs, _⟩
  · injection hcs with hcs
    exact ⟨none, [], 0, hcs, Nat.le_refl _, by omega, fun h => absurd h (by simp)⟩
  · injection hcs with hcs
    subst hcs
    obtain ⟨l, hl, hr, hc1, hc2⟩ := bytes_of h'
    unfold maxLen at hc2
    exact ⟨_, l, c, by rw [hl], by omega, by omega, hr⟩
theorem pick_listP {α : Type} (P : Nat → α → Prop) : ∀ (n : Nat), (∀ i, i < n → ∃ d, P i d) → ∃ l : List α, l.length = n ∧ ∀ i d, l[i]? = some d → P i d
  | 0, _ => ⟨[], rfl, fun i d hd => by simp at hd⟩
  | n + 1, h => by
    obtain ⟨l, hl, hP⟩ := pick_listP P n (fun i hi => h i (by omega))
    obtain ⟨d, hd⟩ := h n (by omega)
    refine ⟨l ++ [d], by simp [hl], fun i x hx => ?_⟩
    rw [List.getElem?_append] at hx
    split at hx
    · exact hP i x hx
    · obtain rfl : i = n := by
        have := (List.getElem?_eq_some_iff.1 hx).1
        simp at this
        omega
      simp [hl] at hx
      rw [← hx]; exact hd
theorem fourP {α : Type} {l : List α} (h : l.length = 4) : ∃ a b c d, l = [a, b, c, d] := by
  match l, h with
  | [a, b, c, d], _ => exact ⟨a, b, c, d, rfl⟩
theorem add_atP (b o i : Nat) : (⟨b, o, none⟩ : Addr).add i = ⟨b, o + i, none⟩ := by unfold Addr.add; split <;> simp_all
theorem str_mk (s : ByteArray) : s = ⟨s.data.toList.toArray⟩ := by
  cases s
  simp
def PcAt (W : World) (a : Addr) (x : Pc) : Prop := ∃ Ai ci, (W.cell? a = some (.slice Ai x.1.length ci) ∧ W.cell? (a.add 1) = some (.bool x.2.1) ∧ W.cell? (a.add 2) = some (.bool x.2.2.1) ∧ W.cell? (a.add 3) = some (.string ⟨x.2.2.2.toArray⟩)) ∧ x.1.length ≤ ci ∧ ci ≤ 9223372036854775807 ∧ Rd W (· < W.heap.size) Ai x.1 ∧ x.2.2.2.length ≤ maxLen
theorem pcs_of {W : World} {held : Bool} {fuel : Nat} {A : Option Addr} {len cap : Nat} {y : DataW H × List MemPlace} (h : DataW.trod enc Tryz.prog W 0 (fun _ => true) held fuel 42 [.slice A len cap] = some y) :
    ∃ xs : List Pc, len = xs.length ∧ LP W A xs ∧ len ≤ maxLen := by
  rcases open_slice Tryz.underlying42 h with ⟨hcs, _⟩ | ⟨a, len', cap', m, n, D, Pl, hcs, _, hl, hm, hmm, hx, hi⟩
  · injection hcs with hcs
    injection hcs with h1 h2 h3
    subst h2
    exact ⟨[], rfl, fun h => absurd h (by simp), Nat.zero_le _⟩
  · injection hcs with hcs
    injection hcs with h1 h2 h3
    subst h1; subst h2; subst h3
    have hC : Tryz.prog.cellsOf 55 = 4 := by kernel_rfl
    rw [hC] at hi
    have k1 : Tryz.prog.cellsOf 22 = 1 := by kernel_rfl
    have k2 : Tryz.prog.cellsOf 4 = 1 := by kernel_rfl
    have k3 : Tryz.prog.cellsOf 9 = 1 := by kernel_rfl
    have key : ∀ i, i < len → ∃ x : Pc, PcAt W (a.add (i * 4)) x := by
      intro i hil
      have hlm : len ≤ m := by
        simp only at hmm
        split at hmm <;> omega
      obtain ⟨cs', hc, ht⟩ := hi i (by omega)
      obtain ⟨_, hcl, hat⟩ := World.cells?_some hc
      obtain ⟨c0, c1, c2, c3, rfl⟩ := fourP hcl
      obtain ⟨y0, y1, y2, y3, k, hy, _, h0, h1, h2, h3⟩ := trod_struct4 Tryz.underlying55 ht
      obtain ⟨Ai, x, ci, rfl, hx1, hx2, hr⟩ := bytes_valP (by simpa [k1] using h0)
      obtain ⟨b1, e1, _⟩ := DataW.trod_bool Tryz.underlying4 (by simpa [k1, k2] using h1)
      obtain ⟨b2, e2, _⟩ := DataW.trod_bool Tryz.underlying4 (by simpa [k1, k2] using h2)
      obtain ⟨s3, e3, _, hs3⟩ := DataW.trod_string Tryz.underlying9 (by simpa [k1, k2, k3] using h3)
      injection e1 with e1
      injection e2 with e2
      injection e3 with e3
      subst e1; subst e2; subst e3
      refine ⟨(x, b1, b2, s3.data.toList), Ai, ci, ⟨?_, ?_, ?_, ?_⟩, hx1, hx2, hr, by simpa using hs3⟩
      · have := hat 0 (by omega); simpa [Addr.add] using this
      · have := hat 1 (by omega); simpa using this
      · have := hat 2 (by omega); simpa using this
      · have := hat 3 (by omega)
        rw [show (⟨(x, b1, b2, s3.data.toList).2.2.2.toArray⟩ : ByteArray) = s3 from (str_mk s3).symm]
        simpa using this
    obtain ⟨xs, hxl, hxs⟩ := pick_listP _ len key
    refine ⟨xs, hxl.symm, fun h0 => ?_, by omega⟩
    obtain ⟨A0, c0, ⟨h1, _⟩, _⟩ := hxs 0 _ (List.getElem?_eq_getElem h0)
    have hs : a.spot = none := by simpa [Addr.add] using World.cell?_spot h1
    have hbl := World.block_lt_of_cell? W _ h1
    obtain ⟨b, o, spot⟩ := a
    subst hs
    refine ⟨b, o, rfl, by simpa [Addr.add] using hbl, fun i x hx => ?_⟩
    obtain ⟨Ai, ci, h2, h3⟩ := hxs i x hx
    simp only [add_atP] at h2
    exact ⟨Ai, ci, h2, h3⟩
end
end Go.Proofs.YtlcfpnegpihicaaGreatDoor
