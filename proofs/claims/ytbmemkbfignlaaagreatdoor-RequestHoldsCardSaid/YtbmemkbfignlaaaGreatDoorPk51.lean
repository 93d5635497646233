import Derived.Test.YtbmemkbfignlaaaGreatDoorPk50
import Derived.Test.YtbmemkbfignlaaaGreatDoorPk49
namespace Go.Proofs.YtbmemkbfignlaaaGreatDoor
open Go.RowKit Go.Shelf
attribute [local go_sem] Oper.semAt_some

/-! ## Which requests are the same -/
structure Rq where
  m : List UInt8
  t : TgL
  old : Bool
  has : Bool
  close : Bool
  id : List UInt8
def sameB (a b : Rq) : Bool := (((((a.m == b.m) && decide (a.t = b.t)) && (a.old == b.old)) && (a.has == b.has)) && (a.close == b.close)) && (a.id == b.id)
theorem sameB_refl (a : Rq) : sameB a a = true := by simp [sameB]
theorem sameB_symm (a b : Rq) : sameB a b = sameB b a := by
  unfold sameB
  rw [Bool.beq_comm (a := a.old), Bool.beq_comm (a := a.has), Bool.beq_comm (a := a.close)]
  congr 1
  · congr 1
    congr 1
    congr 1
    congr 1
    · rw [Bool.eq_iff_iff, beq_iff_eq, beq_iff_eq]; exact eq_comm
    · rw [decide_eq_decide]; exact eq_comm
  · rw [Bool.eq_iff_iff, beq_iff_eq, beq_iff_eq]; exact eq_comm
/-- A request as a value. -/
def RqAt (W : World) (v : Value) (a : Rq) : Prop := ∃ A1 c1 A2 c2, v = .agg #[.string ⟨a.m.toArray⟩, .slice A1 a.t.1.length c1, .slice A2 a.t.2.length c2, .bool a.old, .bool a.has, .bool a.close, .string ⟨a.id.toArray⟩] ∧ Txs W A1 a.t.1 ∧ Prs W A2 a.t.2
theorem RqAt.below {w W : World} {v : Value} {a : Rq} (h : RqAt w v a) (hb : Below w.heap.size w W) : RqAt W v a := by
  obtain ⟨A1, c1, A2, c2, e, h1, h2⟩ := h
  exact ⟨A1, c1, A2, c2, e, h1.below hb, h2.below hb⟩
set_option maxRecDepth 100000 in
set_option maxHeartbeats 8000000 in
theorem refSame13_any (a b : Rq) (v u : Value) (w : World) (ha : RqAt w v a) (hb : RqAt w u b) (hta : BigT a.t) (htb : BigT b.t) : Calls Tryz.prog 10 #[v, u] w (BoolR (sameB a b) w) := by
  obtain ⟨A1, c1, A2, c2, rfl, hx1, hy1⟩ := ha
  obtain ⟨B1, d1, B2, d2, rfl, hx2, hy2⟩ := hb
  obtain ⟨n, hn⟩ : ∃ n, w.heap.size = n := ⟨_, rfl⟩
  unfold BoolR
  obtain ⟨w1, hw1⟩ : ∃ w1, w.alloc (.cells #[.string ⟨a.m.toArray⟩, .slice A1 a.t.1.length c1, .slice A2 a.t.2.length c2, .bool a.old, .bool a.has, .bool a.close, .string ⟨a.id.toArray⟩] 34) = w1 := ⟨_, rfl⟩
  have hB1 : Below w.heap.size w w1 := by rw [← hw1]; exact (Below.refl _ _).alloc (Nat.le_refl _) _
  have z0 : Has w1 n 34 #[.string ⟨a.m.toArray⟩, .slice A1 a.t.1.length c1, .slice A2 a.t.2.length c2, .bool a.old, .bool a.has, .bool a.close, .string ⟨a.id.toArray⟩] := by rw [← hw1, ← hn]; exact Has.new _ _ _
  have hz1 : w1.heap.size = n + 1 := by rw [← hw1, World.size_alloc, hn]
  obtain ⟨w2, hw2⟩ : ∃ w2, w1.alloc (.cells #[.string ⟨b.m.toArray⟩, .slice B1 b.t.1.length d1, .slice B2 b.t.2.length d2, .bool b.old, .bool b.has, .bool b.close, .string ⟨b.id.toArray⟩] 34) = w2 := ⟨_, rfl⟩
  have hB2 : Below w1.heap.size w1 w2 := by rw [← hw2]; exact (Below.refl _ _).alloc (Nat.le_refl _) _
  have z1 : Has w2 (n + 1) 34 #[.string ⟨b.m.toArray⟩, .slice B1 b.t.1.length d1, .slice B2 b.t.2.length d2, .bool b.old, .bool b.has, .bool b.close, .string ⟨b.id.toArray⟩] := by rw [← hw2, ← hz1]; exact Has.new _ _ _
  have z02 := z0.below hB2 z0.lt
  have hB := below_on hB1 hB2
  have hs := Lib.hid (refSameB_any A1 A2 B1 B2 c1 c2 d1 d2 a.t b.t w2 hta htb (hx1.below hB) (hy1.below hB) (hx2.below hB) (hy2.below hB))
  unfold BoolR at hs
  have p0 := z02.cell 0
  have q0 := z1.cell 0
  have p1 := z02.cell 1
  have q1 := z1.cell 1
  have p2 := z02.cell 2
  have q2 := z1.cell 2
  have p3 := z02.cell 3
  have q3 := z1.cell 3
  have p4 := z02.cell 4
  have q4 := z1.cell 4
  have p5 := z02.cell 5
  have q5 := z1.cell 5
  have p6 := z02.cell 6
  have q6 := z1.cell 6
  have hk := Lib.hid (fun W (hW : Below w2.heap.size w2 W) => show (Has W n 34 _ ∧ Has W (n + 1) 34 _) from ⟨z02.below hW z02.lt, z1.below hW z1.lt⟩)
  have hB' := Lib.hid hB
  obtain ⟨am, at_, ao, ah, ac, ai⟩ := a
  obtain ⟨bm, bt, bo, bh, bc, bi⟩ := b
  simp only at *
  unfold sameB
  simp only
  generalize decide (at_ = bt) = r at *
  clear hB hB1 hB2 z0 z1 z02 hx1 hy1 hx2 hy2 hta htb
  cases h0 : (am == bm) with
  | false =>
    go_enter Tryz.func10, Tryz.ntmps10
    go_wp2
    go_ret
    exact ⟨by simp [*], hB'.out⟩
  | true =>
    cases r with
    | false =>
      go_enter Tryz.func10, Tryz.ntmps10
      go_wp2_with (go_at_call 29; (with_reducible refine Calls.mono hs.out ?_); rintro e w5 ⟨rfl, hb5⟩; obtain ⟨kk, kl⟩ := hk.out _ hb5; have p10 := kk.cell 0; have q10 := kl.cell 0; have p11 := kk.cell 1; have q11 := kl.cell 1; have p12 := kk.cell 2; have q12 := kl.cell 2; have p13 := kk.cell 3; have q13 := kl.cell 3; have p14 := kk.cell 4; have q14 := kl.cell 4; have p15 := kk.cell 5; have q15 := kl.cell 5; have p16 := kk.cell 6; have q16 := kl.cell 6; have hb5' := Lib.hid (below_on hB'.out hb5); clear kk kl hb5)
      go_ret
      exact ⟨by simp [*], hb5'.out⟩
    | true =>
      cases h2 : (ao == bo) with
      | false =>
        go_enter Tryz.func10, Tryz.ntmps10
        go_wp2_with (go_at_call 29; (with_reducible refine Calls.mono hs.out ?_); rintro e w5 ⟨rfl, hb5⟩; obtain ⟨kk, kl⟩ := hk.out _ hb5; have p10 := kk.cell 0; have q10 := kl.cell 0; have p11 := kk.cell 1; have q11 := kl.cell 1; have p12 := kk.cell 2; have q12 := kl.cell 2; have p13 := kk.cell 3; have q13 := kl.cell 3; have p14 := kk.cell 4; have q14 := kl.cell 4; have p15 := kk.cell 5; have q15 := kl.cell 5; have p16 := kk.cell 6; have q16 := kl.cell 6; have hb5' := Lib.hid (below_on hB'.out hb5); clear kk kl hb5)
        go_ret
        exact ⟨by simp [*], hb5'.out⟩
      | true =>
        cases h3 : (ah == bh) with
        | false =>
          go_enter Tryz.func10, Tryz.ntmps10
          go_wp2_with (go_at_call 29; (with_reducible refine Calls.mono hs.out ?_); rintro e w5 ⟨rfl, hb5⟩; obtain ⟨kk, kl⟩ := hk.out _ hb5; have p10 := kk.cell 0; have q10 := kl.cell 0; have p11 := kk.cell 1; have q11 := kl.cell 1; have p12 := kk.cell 2; have q12 := kl.cell 2; have p13 := kk.cell 3; have q13 := kl.cell 3; have p14 := kk.cell 4; have q14 := kl.cell 4; have p15 := kk.cell 5; have q15 := kl.cell 5; have p16 := kk.cell 6; have q16 := kl.cell 6; have hb5' := Lib.hid (below_on hB'.out hb5); clear kk kl hb5)
          go_ret
          exact ⟨by simp [*], hb5'.out⟩
        | true =>
          cases h4 : (ac == bc) with
          | false =>
            go_enter Tryz.func10, Tryz.ntmps10
            go_wp2_with (go_at_call 29; (with_reducible refine Calls.mono hs.out ?_); rintro e w5 ⟨rfl, hb5⟩; obtain ⟨kk, kl⟩ := hk.out _ hb5; have p10 := kk.cell 0; have q10 := kl.cell 0; have p11 := kk.cell 1; have q11 := kl.cell 1; have p12 := kk.cell 2; have q12 := kl.cell 2; have p13 := kk.cell 3; have q13 := kl.cell 3; have p14 := kk.cell 4; have q14 := kl.cell 4; have p15 := kk.cell 5; have q15 := kl.cell 5; have p16 := kk.cell 6; have q16 := kl.cell 6; have hb5' := Lib.hid (below_on hB'.out hb5); clear kk kl hb5)
            go_ret
            exact ⟨by simp [*], hb5'.out⟩
          | true =>
            cases h5 : (ai == bi) with
            | false =>
              go_enter Tryz.func10, Tryz.ntmps10
              go_wp2_with (go_at_call 29; (with_reducible refine Calls.mono hs.out ?_); rintro e w5 ⟨rfl, hb5⟩; obtain ⟨kk, kl⟩ := hk.out _ hb5; have p10 := kk.cell 0; have q10 := kl.cell 0; have p11 := kk.cell 1; have q11 := kl.cell 1; have p12 := kk.cell 2; have q12 := kl.cell 2; have p13 := kk.cell 3; have q13 := kl.cell 3; have p14 := kk.cell 4; have q14 := kl.cell 4; have p15 := kk.cell 5; have q15 := kl.cell 5; have p16 := kk.cell 6; have q16 := kl.cell 6; have hb5' := Lib.hid (below_on hB'.out hb5); clear kk kl hb5)
              go_ret
              exact ⟨by simp [*], hb5'.out⟩
            | true =>
              go_enter Tryz.func10, Tryz.ntmps10
              go_wp2_with (go_at_call 29; (with_reducible refine Calls.mono hs.out ?_); rintro e w5 ⟨rfl, hb5⟩; obtain ⟨kk, kl⟩ := hk.out _ hb5; have p10 := kk.cell 0; have q10 := kl.cell 0; have p11 := kk.cell 1; have q11 := kl.cell 1; have p12 := kk.cell 2; have q12 := kl.cell 2; have p13 := kk.cell 3; have q13 := kl.cell 3; have p14 := kk.cell 4; have q14 := kl.cell 4; have p15 := kk.cell 5; have q15 := kl.cell 5; have p16 := kk.cell 6; have q16 := kl.cell 6; have hb5' := Lib.hid (below_on hB'.out hb5); clear kk kl hb5)
              go_ret
              exact ⟨by simp [*], hb5'.out⟩
set_option maxRecDepth 100000 in
set_option maxHeartbeats 8000000 in
theorem same13_any (a b : Rq) (v u : Value) (w : World) (ha : RqAt w v a) (hb : RqAt w u b) (hta : BigT a.t) (htb : BigT b.t) : Calls Tryz.prog 11 #[v, u] w (BoolR (sameB a b) w) := by
  obtain ⟨A1, c1, A2, c2, rfl, hx1, hy1⟩ := ha
  obtain ⟨B1, d1, B2, d2, rfl, hx2, hy2⟩ := hb
  obtain ⟨n, hn⟩ : ∃ n, w.heap.size = n := ⟨_, rfl⟩
  unfold BoolR
  obtain ⟨w1, hw1⟩ : ∃ w1, w.alloc (.cells #[.string ⟨a.m.toArray⟩, .slice A1 a.t.1.length c1, .slice A2 a.t.2.length c2, .bool a.old, .bool a.has, .bool a.close, .string ⟨a.id.toArray⟩] 34) = w1 := ⟨_, rfl⟩
  have hB1 : Below w.heap.size w w1 := by rw [← hw1]; exact (Below.refl _ _).alloc (Nat.le_refl _) _
  have z0 : Has w1 n 34 #[.string ⟨a.m.toArray⟩, .slice A1 a.t.1.length c1, .slice A2 a.t.2.length c2, .bool a.old, .bool a.has, .bool a.close, .string ⟨a.id.toArray⟩] := by rw [← hw1, ← hn]; exact Has.new _ _ _
  have hz1 : w1.heap.size = n + 1 := by rw [← hw1, World.size_alloc, hn]
  obtain ⟨w2, hw2⟩ : ∃ w2, w1.alloc (.cells #[.string ⟨b.m.toArray⟩, .slice B1 b.t.1.length d1, .slice B2 b.t.2.length d2, .bool b.old, .bool b.has, .bool b.close, .string ⟨b.id.toArray⟩] 34) = w2 := ⟨_, rfl⟩
  have hB2 : Below w1.heap.size w1 w2 := by rw [← hw2]; exact (Below.refl _ _).alloc (Nat.le_refl _) _
  have z1 : Has w2 (n + 1) 34 #[.string ⟨b.m.toArray⟩, .slice B1 b.t.1.length d1, .slice B2 b.t.2.length d2, .bool b.old, .bool b.has, .bool b.close, .string ⟨b.id.toArray⟩] := by rw [← hw2, ← hz1]; exact Has.new _ _ _
  have z02 := z0.below hB2 z0.lt
  have hB := below_on hB1 hB2
  have hs := Lib.hid (sameTB_any A1 A2 B1 B2 c1 c2 d1 d2 a.t b.t w2 hta htb (hx1.below hB) (hy1.below hB) (hx2.below hB) (hy2.below hB))
  unfold BoolR at hs
  have p0 := z02.cell 0
  have q0 := z1.cell 0
  have p1 := z02.cell 1
  have q1 := z1.cell 1
  have p2 := z02.cell 2
  have q2 := z1.cell 2
  have p3 := z02.cell 3
  have q3 := z1.cell 3
  have p4 := z02.cell 4
  have q4 := z1.cell 4
  have p5 := z02.cell 5
  have q5 := z1.cell 5
  have p6 := z02.cell 6
  have q6 := z1.cell 6
  have hk := Lib.hid (fun W (hW : Below w2.heap.size w2 W) => show (Has W n 34 _ ∧ Has W (n + 1) 34 _) from ⟨z02.below hW z02.lt, z1.below hW z1.lt⟩)
  have hB' := Lib.hid hB
  obtain ⟨am, at_, ao, ah, ac, ai⟩ := a
  obtain ⟨bm, bt, bo, bh, bc, bi⟩ := b
  simp only at *
  unfold sameB
  simp only
  generalize decide (at_ = bt) = r at *
  clear hB hB1 hB2 z0 z1 z02 hx1 hy1 hx2 hy2 hta htb
  cases h0 : (am == bm) with
  | false =>
    cases g0 : (ao == bo) with
    | false =>
      go_enter Tryz.func11, Tryz.ntmps11
      go_wp2
      go_ret
      exact ⟨by simp [*], hB'.out⟩
    | true =>
      cases g1 : (ah == bh) with
      | false =>
        go_enter Tryz.func11, Tryz.ntmps11
        go_wp2
        go_ret
        exact ⟨by simp [*], hB'.out⟩
      | true =>
        cases g2 : (ac == bc) with
        | false =>
          go_enter Tryz.func11, Tryz.ntmps11
          go_wp2
          go_ret
          exact ⟨by simp [*], hB'.out⟩
        | true =>
          go_enter Tryz.func11, Tryz.ntmps11
          go_wp2
          go_ret
          exact ⟨by simp [*], hB'.out⟩
  | true =>
    cases h1 : (ai == bi) with
    | false =>
      cases g0 : (ao == bo) with
      | false =>
        go_enter Tryz.func11, Tryz.ntmps11
        go_wp2
        go_ret
        exact ⟨by simp [*], hB'.out⟩
      | true =>
        cases g1 : (ah == bh) with
        | false =>
          go_enter Tryz.func11, Tryz.ntmps11
          go_wp2
          go_ret
          exact ⟨by simp [*], hB'.out⟩
        | true =>
          cases g2 : (ac == bc) with
          | false =>
            go_enter Tryz.func11, Tryz.ntmps11
            go_wp2
            go_ret
            exact ⟨by simp [*], hB'.out⟩
          | true =>
            go_enter Tryz.func11, Tryz.ntmps11
            go_wp2
            go_ret
            exact ⟨by simp [*], hB'.out⟩
    | true =>
      cases g0 : (ao == bo) with
      | false =>
        go_enter Tryz.func11, Tryz.ntmps11
        go_wp2
        go_ret
        exact ⟨by simp [*], hB'.out⟩
      | true =>
        cases g1 : (ah == bh) with
        | false =>
          go_enter Tryz.func11, Tryz.ntmps11
          go_wp2
          go_ret
          exact ⟨by simp [*], hB'.out⟩
        | true =>
          cases g2 : (ac == bc) with
          | false =>
            go_enter Tryz.func11, Tryz.ntmps11
            go_wp2
            go_ret
            exact ⟨by simp [*], hB'.out⟩
          | true =>
            go_enter Tryz.func11, Tryz.ntmps11
            go_wp2_with (go_at_call 30; (with_reducible refine Calls.mono hs.out ?_); rintro e w5 ⟨rfl, hb5⟩; obtain ⟨kk, kl⟩ := hk.out _ hb5; have p10 := kk.cell 0; have q10 := kl.cell 0; have p11 := kk.cell 1; have q11 := kl.cell 1; have p12 := kk.cell 2; have q12 := kl.cell 2; have p13 := kk.cell 3; have q13 := kl.cell 3; have p14 := kk.cell 4; have q14 := kl.cell 4; have p15 := kk.cell 5; have q15 := kl.cell 5; have p16 := kk.cell 6; have q16 := kl.cell 6; have hb5' := Lib.hid (below_on hB'.out hb5); clear kk kl hb5)
            go_ret
            exact ⟨by simp [*], hb5'.out⟩
end Go.Proofs.YtbmemkbfignlaaaGreatDoor

namespace Go.Proofs.YtbmemkbfignlaaaGreatDoor
open Go.RowKit Go.Shelf
attribute [local go_sem] Oper.semAt_some

/-! ## RequestSame -/
/-- What is known of a request that came in. -/
structure ArgQ (a : Rq) : Prop where
  parts : a.t.1.length ≤ 140737488355328
  pairs : a.t.2.length ≤ 140737488355328
  part : ∀ x ∈ a.t.1, x.length ≤ 140737488355328
  pair : ∀ q ∈ a.t.2, q.1.length ≤ 281474976710656 ∧ q.2.length ≤ 281474976710656
set_option maxRecDepth 100000 in
set_option maxHeartbeats 8000000 in
theorem same_law (a b : Rq) (v u : Value) (w : World) (ha : RqAt w v a) (hb : RqAt w u b) (qa : ArgQ a) (qb : ArgQ b) (hT : TabT w) : Calls Tryz.prog 4 #[v, u] w (BoolR true w) := by
  have hA := Lib.hid ha
  have hBq := Lib.hid hb
  obtain ⟨A1, c1, A2, c2, rfl, -, -⟩ := ha
  obtain ⟨B1, d1, B2, d2, rfl, -, -⟩ := hb
  obtain ⟨n, hn⟩ : ∃ n, w.heap.size = n := ⟨_, rfl⟩
  unfold BoolR
  obtain ⟨w1, hw1⟩ : ∃ w1, w.alloc (.cells #[.string ⟨a.m.toArray⟩, .slice A1 a.t.1.length c1, .slice A2 a.t.2.length c2, .bool a.old, .bool a.has, .bool a.close, .string ⟨a.id.toArray⟩] 34) = w1 := ⟨_, rfl⟩
  have hB1 : Below w.heap.size w w1 := by rw [← hw1]; exact (Below.refl _ _).alloc (Nat.le_refl _) _
  have z0 : Has w1 n 34 #[.string ⟨a.m.toArray⟩, .slice A1 a.t.1.length c1, .slice A2 a.t.2.length c2, .bool a.old, .bool a.has, .bool a.close, .string ⟨a.id.toArray⟩] := by rw [← hw1, ← hn]; exact Has.new _ _ _
  have hz1 : w1.heap.size = n + 1 := by rw [← hw1, World.size_alloc, hn]
  obtain ⟨w2, hw2⟩ : ∃ w2, w1.alloc (.cells #[.string ⟨b.m.toArray⟩, .slice B1 b.t.1.length d1, .slice B2 b.t.2.length d2, .bool b.old, .bool b.has, .bool b.close, .string ⟨b.id.toArray⟩] 34) = w2 := ⟨_, rfl⟩
  have hB2 : Below w1.heap.size w1 w2 := by rw [← hw2]; exact (Below.refl _ _).alloc (Nat.le_refl _) _
  have z1 : Has w2 (n + 1) 34 #[.string ⟨b.m.toArray⟩, .slice B1 b.t.1.length d1, .slice B2 b.t.2.length d2, .bool b.old, .bool b.has, .bool b.close, .string ⟨b.id.toArray⟩] := by rw [← hw2, ← hz1]; exact Has.new _ _ _
  have z02 := z0.below hB2 z0.lt
  have hB := below_on hB1 hB2
  have p0 := z02.cell 0
  have p1 := z02.cell 1
  have p2 := z02.cell 2
  have p3 := z02.cell 3
  have p4 := z02.cell 4
  have p5 := z02.cell 5
  have p6 := z02.cell 6
  have q0 := z1.cell 0
  have q1 := z1.cell 1
  have q2 := z1.cell 2
  have q3 := z1.cell 3
  have q4 := z1.cell 4
  have q5 := z1.cell 5
  have q6 := z1.cell 6
  have hk := Lib.hid (fun W (hW : Below w2.heap.size w2 W) => show (Has W n 34 _ ∧ Has W (n + 1) 34 _) from ⟨z02.below hW z02.lt, z1.below hW z1.lt⟩)
  have hwk := Lib.hid (fun W (hW : Below w.heap.size w W) => works13_any W (hT.below hW))
  have hB' := Lib.hid hB
  have l1 : (a.t.1.length : Int) ≤ 140737488355328 := by have := qa.parts; omega
  have l2 : (a.t.2.length : Int) ≤ 140737488355328 := by have := qa.pairs; omega
  have l3 : (b.t.1.length : Int) ≤ 140737488355328 := by have := qb.parts; omega
  have l4 : (b.t.2.length : Int) ≤ 140737488355328 := by have := qb.pairs; omega
  by_cases h80 : a.t.1.length + a.t.2.length + b.t.1.length + b.t.2.length ≤ 80
  · have hta : BigT a.t := ⟨by omega, by omega, fun x h => Nat.le_trans (qa.part x h) (by decide), qa.pair⟩
    have htb : BigT b.t := ⟨by omega, by omega, fun x h => Nat.le_trans (qb.part x h) (by decide), qb.pair⟩
    have hI : ¬ (80 : Int) < (a.t.1.length : Int) + (a.t.2.length : Int) + (b.t.1.length : Int) + (b.t.2.length : Int) := by omega
    have r1 := Lib.hid (fun W (hW : Below w.heap.size w W) => refSame13_any a b _ _ W (hA.out.below hW) (hBq.out.below hW) hta htb)
    have r2 := Lib.hid (fun W (hW : Below w.heap.size w W) => same13_any a b _ _ W (hA.out.below hW) (hBq.out.below hW) hta htb)
    have r3 := Lib.hid (fun W (hW : Below w.heap.size w W) => same13_any b a _ _ W (hBq.out.below hW) (hA.out.below hW) htb hta)
    have r4 := Lib.hid (fun W (hW : Below w.heap.size w W) => same13_any a a _ _ W (hA.out.below hW) (hA.out.below hW) hta hta)
    unfold BoolR at r1 r2 r3 r4
    rw [sameB_symm b a] at r3
    rw [sameB_refl] at r4
    generalize sameB a b = s at *
    clear hB hB1 hB2 z0 z1 z02 hta htb qa qb hT hA hBq h80
    obtain ⟨am, at_, ao, ah, ac, ai⟩ := a
    obtain ⟨bm, bt, bo, bh, bc, bi⟩ := b
    simp only at *
    cases s
    all_goals
      go_enter Tryz.func4, Tryz.ntmps4
      go_wp2_with (first
        | (go_at_call 10; (with_reducible refine Calls.mono (r1.out _ hB'.out) ?_); rintro e w5 ⟨rfl, hb5⟩; obtain ⟨kk, kl⟩ := hk.out _ hb5; have p10 := kk.cell 0; have p11 := kk.cell 1; have p12 := kk.cell 2; have p13 := kk.cell 3; have p14 := kk.cell 4; have p15 := kk.cell 5; have p16 := kk.cell 6; have q10 := kl.cell 0; have q11 := kl.cell 1; have q12 := kl.cell 2; have q13 := kl.cell 3; have q14 := kl.cell 4; have q15 := kl.cell 5; have q16 := kl.cell 6; have hb5' := Lib.hid (below_on hB'.out hb5); have hc5 := Lib.hid hb5; clear kk kl hb5)
        | (go_at_call 11; (with_reducible refine Calls.mono (r2.out _ hb5'.out) ?_); rintro e w6 ⟨rfl, hb6⟩; have hc6 := Lib.hid (hc5.out.trans (hb6.mono hc5.out.size)); obtain ⟨kk, kl⟩ := hk.out _ hc6.out; have p20 := kk.cell 0; have p21 := kk.cell 1; have p22 := kk.cell 2; have p23 := kk.cell 3; have p24 := kk.cell 4; have p25 := kk.cell 5; have p26 := kk.cell 6; have q20 := kl.cell 0; have q21 := kl.cell 1; have q22 := kl.cell 2; have q23 := kl.cell 3; have q24 := kl.cell 4; have q25 := kl.cell 5; have q26 := kl.cell 6; have hb6' := Lib.hid (below_on hb5'.out hb6); clear kk kl hb6)
        | (go_at_call 11; (with_reducible refine Calls.mono (r3.out _ hb6'.out) ?_); rintro e w7 ⟨rfl, hb7⟩; have hc7 := Lib.hid (hc6.out.trans (hb7.mono hc6.out.size)); obtain ⟨kk, kl⟩ := hk.out _ hc7.out; have p30 := kk.cell 0; have p31 := kk.cell 1; have p32 := kk.cell 2; have p33 := kk.cell 3; have p34 := kk.cell 4; have p35 := kk.cell 5; have p36 := kk.cell 6; have hb7' := Lib.hid (below_on hb6'.out hb7); clear kk kl hb7)
        | (go_at_call 11; (with_reducible refine Calls.mono (r4.out _ hb7'.out) ?_); rintro e w8 ⟨rfl, hb8⟩; have hb8' := Lib.hid (below_on hb7'.out hb8); clear hb8)
        | (go_at_call 6; (with_reducible refine Calls.mono (hwk.out _ hb8'.out) ?_); rintro e w9 ⟨rfl, hb9⟩; have hb9' := Lib.hid (below_on hb8'.out hb9); clear hb9))
      go_ret
      exact ⟨rfl, hb9'.out⟩
  · have hI : (80 : Int) < (a.t.1.length : Int) + (a.t.2.length : Int) + (b.t.1.length : Int) + (b.t.2.length : Int) := by omega
    clear hB hB1 hB2 z0 z1 z02 qa qb hT hA hBq h80 hk
    obtain ⟨am, at_, ao, ah, ac, ai⟩ := a
    obtain ⟨bm, bt, bo, bh, bc, bi⟩ := b
    simp only at *
    go_enter Tryz.func4, Tryz.ntmps4
    go_wp2_with (go_at_call 6; (with_reducible refine Calls.mono (hwk.out _ hB'.out) ?_); rintro e w9 ⟨rfl, hb9⟩; have hb9' := Lib.hid (below_on hB'.out hb9); clear hb9)
    go_ret
    exact ⟨rfl, hb9'.out⟩
end Go.Proofs.YtbmemkbfignlaaaGreatDoor
