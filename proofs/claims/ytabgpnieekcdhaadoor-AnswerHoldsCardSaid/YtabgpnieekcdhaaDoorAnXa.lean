import Derived.Test.YtabgpnieekcdhaaDoorAnU
import Derived.Test.YtabgpnieekcdhaaDoorAnM
import Derived.Deep.Cut
import Derived.Deep.CutRange
import Derived.Sort.BigQuietIn
import Derived.BigQuiet
import Derived.Deep.QuietTactic
namespace Go.Proofs.YtabgpnieekcdhaaDoor
open Go.RowKit

/-! ## Answers that are read back: mathematics -/
abbrev hs0 : Hs := ⟨[], [], [], 0, false, false⟩
def Good (B : List UInt8) : Prop := ∃ (hd : List UInt8) (fin : Hs) (x : Nat), Run hs0 hd fin ∧ fin.done = true ∧ B.take hd.length = hd ∧ hd.length + x = B.length ∧ 1 ≤ x ∧ B.length ≤ 10000 ∧ getL An.clenL [] 0 fin.fields = (An.dec x, 1) ∧ FewH fin.fields ∧ B[B.length - 1]? = some 10
def GoodS (B : List UInt8) : Prop := ∃ fin : Hs, Run hs0 B fin ∧ fin.done = true ∧ 1 ≤ B.length ∧ B.length ≤ 10000 ∧ (getL An.clenL [] 0 fin.fields).2 = 0 ∧ FewH fin.fields
theorem value_all {s : List UInt8} (h : valueL s = true) : s.all valB = true := by
  unfold valueL at h
  rw [Bool.and_eq_true] at h
  exact h.1
theorem run_head {j : Nat} (hj : j < 8) {l : List PairL} (hh : Rr.headB (An.firstT (An.stat j).1 (An.stat j).2) l = true) (hl : l.length ≤ 4) (hs : ∀ q ∈ l, q.1.length ≤ 17 ∧ q.2.length ≤ 20) :
    Run hs0 (An.headT (An.firstT (An.stat j).1 (An.stat j).2) l) ⟨An.firstT (An.stat j).1 (An.stat j).2, l, [], (An.headT (An.firstT (An.stat j).1 (An.stat j).2) l).length, false, true⟩ := by
  obtain ⟨h1, _, _, _, x, b, h5, h6⟩ := An.stat_val hj
  have hf := An.first_len hj
  refine Run.head hh (value_all (An.first_value h1 h5 h6)) ?_ (by omega) (by omega) (fun q hq => by have := hs q hq; omega) (by have := An.head_len (f := An.firstT (An.stat j).1 (An.stat j).2) (l := l) (by omega) (by omega) hs; omega)
  unfold An.firstT An.httpL
  simp
theorem few_of {l : List PairL} (hl : l.length ≤ 4) (hs : ∀ q ∈ l, q.1.length ≤ 17 ∧ q.2.length ≤ 20) : FewH l := ⟨by omega, fun q hq => by have := hs q hq; omega⟩
theorem get_len (s n : Nat) : getL An.clenL [] 0 (An.fieldsT s n) = (An.dec n, 1) := by
  have e1 : ¬ lowerL An.ctypeL = lowerL An.clenL := by decide
  have e2 : ¬ lowerL An.connL = lowerL An.clenL := by decide
  have e3 : ¬ lowerL An.allowL = lowerL An.clenL := by decide
  have e4 : ¬ lowerL An.retryL = lowerL An.clenL := by decide
  unfold An.fieldsT An.own
  split
  · simp [getL, e1, e2, e3]
  · split
    · simp [getL, e1, e2, e4]
    · simp [getL, e1, e2]
theorem good_plain {j : Nat} (hj : j < 8) {tx : List UInt8} (ht : tx.length ≤ 1000) : Good (An.plainB (An.stat j).1 (An.stat j).2 tx) := by
  have hsm : ∀ q ∈ An.fieldsT (An.stat j).1 (tx.length + 1), q.1.length ≤ 17 ∧ q.2.length ≤ 20 := fun q hq => by have := An.fields_small (s := (An.stat j).1) (n := tx.length + 1) (by omega) q hq; omega
  have hfl := An.fields_len (An.stat j).1 (tx.length + 1)
  have hL := An.head_len (f := An.firstT (An.stat j).1 (An.stat j).2) (l := An.fieldsT (An.stat j).1 (tx.length + 1)) (by have := An.first_len hj; omega) (by omega) hsm
  refine ⟨_, _, tx.length + 1, run_head hj (An.plain_head hj) hfl hsm, rfl, ?_, ?_, by omega, ?_, get_len _ _, few_of hfl hsm, ?_⟩
  · unfold An.plainB
    exact List.take_left
  · unfold An.plainB
    simp only [List.length_append, List.length_cons, List.length_nil]
    all_goals omega
  · unfold An.plainB
    simp only [List.length_append, List.length_cons, List.length_nil]
    omega
  · unfold An.plainB
    rw [← List.append_assoc, List.length_append, List.length_singleton, Nat.add_sub_cancel, List.getElem?_append_right (Nat.le_refl _)]
    simp
theorem good_plainO {s : Int} {t B : List UInt8} (h : An.plainO s t = some B) : Good B := by
  unfold An.plainO at h
  cases hr : An.reason s with
  | none => rw [hr] at h; cases h
  | some r =>
    rw [hr] at h
    simp only at h
    split at h
    · rename_i hl
      obtain ⟨j, hj, rfl, rfl⟩ := An.reason_some hr
      rw [Int.toNat_natCast] at h
      obtain rfl := Option.some.inj h
      exact good_plain hj hl
    · cases h
theorem good_refusalO {s : Int} {B : List UInt8} (h : An.refusalO s = some B) : Good B := by
  unfold An.refusalO at h
  cases hr : An.reason s with
  | none => rw [hr] at h; cases h
  | some r =>
    rw [hr] at h
    simp only at h
    split at h
    · cases h
    · obtain ⟨j, hj, rfl, rfl⟩ := An.reason_some hr
      rw [Int.toNat_natCast] at h
      obtain rfl := Option.some.inj h
      obtain ⟨_, h2, h3, _⟩ := An.stat_val hj
      have := An.dec_len (x := (An.stat j).1) (by omega)
      refine good_plain hj ?_
      simp [An.refusalT, lowerL]
      omega
theorem good_healthO {a b : Int} {d : Bool} {B : List UInt8} (ha : a ≤ 9223372036854775807) (hb : b ≤ 9223372036854775807) (h : An.healthO a b d = some B) : Good B := by
  unfold An.healthO at h
  split at h
  · cases h
  · split at h
    · obtain rfl := Option.some.inj h
      exact good_plain (j := 6) (by omega) (by decide)
    · obtain rfl := Option.some.inj h
      have h1 := An.dec_len (x := a.toNat) (by omega)
      have h2 := An.dec_len (x := b.toNat) (by omega)
      refine good_plain (j := 0) (by omega) ?_
      simp [An.healthT, An.okL]
      omega
theorem good_stream (c : Bool) : GoodS (An.streamB c) := by
  have hl : (An.streamFl c).length ≤ 4 := by cases c <;> decide
  have hL := An.head_len (f := An.streamF) (l := An.streamFl c) (by have := An.first_len (j := 0) (by omega); exact Nat.le_trans this (by omega)) (by omega) (An.stream_small c)
  refine ⟨_, run_head (j := 0) (by omega) (An.stream_head c) hl (An.stream_small c), rfl, ?_, ?_, ?_, few_of hl (An.stream_small c)⟩
  · show 1 ≤ (An.headT _ _).length
    unfold An.headT An.crlf
    simp only [List.length_append, List.length_cons, List.length_nil]
    omega
  · show (An.headT An.streamF (An.streamFl c)).length ≤ 10000
    omega
  · cases c <;> decide
/-- A slice whose bytes stand somewhere. -/
def EntB (W : World) (v : Value) (B : List UInt8) : Prop := ∃ (g o c : Nat), v = .slice (some ⟨g, o, none⟩) B.length c ∧ g < W.heap.size ∧ ∀ (j : Nat) (h : j < B.length), W.cell? ⟨g, o + j, none⟩ = some (.int .u8 (B[j].toNat : Int))
theorem EntB.below {W W' : World} {v : Value} {B : List UInt8} (h : EntB W v B) (hb : Below W.heap.size W W') : EntB W' v B := by
  obtain ⟨g, o, c, e, hl, hc⟩ := h
  exact ⟨g, o, c, e, Nat.lt_of_lt_of_le hl hb.size, fun j hj => (hb.cell (p := ⟨g, o + j, none⟩) hl).trans (hc j hj)⟩
theorem Bz.ent {W : World} {n0 : Nat} {v : Value} {B : List UInt8} (h : Bz W n0 v B) (hB : 1 ≤ B.length) : EntB W v B := by
  rcases h with h | ⟨g, cap, cur, rfl, hb, hg, hc, hm, hs, ht⟩
  · rcases h.2 with ⟨_, h0⟩ | ⟨g, cap, cur, rfl, hb, hg, hc, hm, hs, ht⟩
    · omega
    · refine ⟨g, 0, cap, rfl, (Array.getElem?_eq_some_iff.1 hg).1, fun j hj => ?_⟩
      rw [Nat.zero_add, cell_of_row W g j cur _ _ hg]
      have h1 : (cur.toList.take (B.length * 1))[j]? = (byts B)[j]? := by rw [ht]
      rw [List.getElem?_take_of_lt (by omega)] at h1
      rw [← Array.getElem?_toList, h1]
      simp [byts, hj]
      rfl
  · refine ⟨g, 0, cap, rfl, (Array.getElem?_eq_some_iff.1 hg).1, fun j hj => ?_⟩
    rw [Nat.zero_add, cell_of_row W g j cur _ _ hg]
    have h1 : (cur.toList.take B.length)[j]? = (byts B)[j]? := by rw [ht]
    rw [List.getElem?_take_of_lt hj] at h1
    rw [← Array.getElem?_toList, h1]
    simp [byts, hj]
    rfl
theorem get_good {f : List UInt8} {A : Option Addr} {c x : Nat} {l : List PairL} {w : World} (hg : getL An.clenL [] 0 l = (An.dec x, 1)) (hl : FewH l) (hp : Prs w A l) :
    Calls Tryd.prog 23 #[.agg #[.string ⟨f.toArray⟩, .slice A l.length c], .string ⟨#[99, 111, 110, 116, 101, 110, 116, 45, 108, 101, 110, 103, 116, 104]⟩] w fun e w' => e = .returned (.tuple #[.string ⟨(An.dec x).toArray⟩, .int .i64 1]) ∧ Below w.heap.size w w' := by
  have h := get10_any f A c l An.clenL w hl (by decide) hp
  rw [hg] at h
  exact h
theorem get_none {f : List UInt8} {A : Option Addr} {c : Nat} {l : List PairL} {w : World} (hg : (getL An.clenL [] 0 l).2 = 0) (hl : FewH l) (hp : Prs w A l) :
    Calls Tryd.prog 23 #[.agg #[.string ⟨f.toArray⟩, .slice A l.length c], .string ⟨#[99, 111, 110, 116, 101, 110, 116, 45, 108, 101, 110, 103, 116, 104]⟩] w fun e w' => (∃ s, e = .returned (.tuple #[.string s, .int .i64 0])) ∧ Below w.heap.size w w' := by
  have h := get10_any f A c l An.clenL w hl (by decide) hp
  rw [hg] at h
  exact h.mono fun e w' ⟨h1, h2⟩ => ⟨⟨_, h1⟩, h2⟩
end Go.Proofs.YtabgpnieekcdhaaDoor
namespace Go.Proofs.YtabgpnieekcdhaaDoor
open Go.RowKit Go.Shelf
attribute [local go_sem] Oper.semAt_some
attribute [local go_sem] wideF_fn wideF_depth wideF_round

/-! ## Each answer is a head, and as many bytes behind it as it says -/
def AnsE (o : Option (List UInt8)) (w : World) (e : Ending) (w' : World) : Prop := (∃ A m c, e = .returned (.tuple #[.slice A m c, .int .i64 (erO o)]) ∧ ∀ B, o = some B → EntB w' (.slice A m c) B ∧ Good B) ∧ Below w.heap.size w w'
theorem AnsR.ent {o : Option (List UInt8)} {w : World} {e : Ending} {w' : World} (hg : ∀ B, o = some B → Good B) (h : AnsR o w e w') : AnsE o w e w' := by
  obtain ⟨h, hb⟩ := h
  refine ⟨?_, hb⟩
  cases o with
  | none => exact ⟨none, 0, 0, h, fun B hB => by cases hB⟩
  | some b =>
    simp only at h
    obtain ⟨v, rfl, hv⟩ := h
    have hG := hg b rfl
    have h1 : 1 ≤ b.length := by obtain ⟨_, _, x, _, _, _, h1, h2, _⟩ := hG; omega
    have he := hv.ent h1
    obtain ⟨g, o, c, rfl, _⟩ := he
    exact ⟨_, _, _, rfl, fun B hB => by obtain rfl := Option.some.inj hB; exact ⟨hv.ent h1, hG⟩⟩
/-- The answers that are, in a row of one's own. -/
def LstR (w6 : World) (m : Nat) (v : Value) (W : World) : Prop := ∃ es : List (Value × List UInt8), es.length ≤ m ∧ (∀ e ∈ es, EntB w6 e.1 e.2 ∧ Good e.2) ∧ W.ownsRow w6.heap.size 26 1 v es.length (es.map Prod.fst) ∧ Below w6.heap.size w6 W
theorem LstR.below {w6 : World} {m : Nat} {v : Value} {W W' : World} (h : LstR w6 m v W) (hb : Below W.heap.size W W') : LstR w6 m v W' := by
  obtain ⟨es, h1, h2, h3, h4⟩ := h
  refine ⟨es, h1, h2, ⟨h3.1, ?_⟩, below_on h4 hb⟩
  rcases h3.2 with h | ⟨g, cap, cur, rfl, hbg, hg, r⟩
  · exact .inl h
  · exact .inr ⟨g, cap, cur, rfl, hbg, (hb.block g (Array.getElem?_eq_some_iff.1 hg).1).trans hg, r⟩
theorem LstR.more {w6 : World} {m m' : Nat} {v : Value} {W : World} (h : LstR w6 m v W) (hm : m ≤ m') : LstR w6 m' v W := by
  obtain ⟨es, h1, h2, h3⟩ := h
  exact ⟨es, by omega, h2, h3⟩
theorem infoSB : (Tryd.prog.info? 26).map (fun i => (i.zero, i.size, i.bytes)) = some (some (.slice none 0 0), 1, 24) := by kernel_rfl
theorem wpList_append_ent {w : World} {ops : Array Oper} {rest : List Oper} {o : Oper} {a : Act} {Q : Exit → Act → World → Prop} {w6 : World} {m : Nat} {v : Value} (hgd : o.guard = none) (s x : Operand) (ho : o.op = .call { callee := .builtin .append, args := #[s, x], argTypes := #[48, 48] }) (hsv : a.eval s = v) (hv : LstR w6 m v w) (hm : m ≤ 100)
    (k : Nat) (A : Option Addr) (n c : Nat) (B : List UInt8) (hxv : a.eval x = .slice (some ⟨k, 0, none⟩) 1 1) (hx : Has w k 26 #[.slice A n c]) (hB : EntB w6 (.slice A n c) B ∧ Good B)
    (h : ∀ A' n' c' w', LstR w6 (m + 1) (.slice A' n' c') w' → wpList Tryd.prog ops Q rest (a.put o.dst (.slice A' n' c')) w') : wpList Tryd.prog ops Q (o :: rest) a w := by
  obtain ⟨i, hi, hz, hz1, hz2⟩ := info_parts infoSB
  obtain ⟨es, h1, h2, h3, h4⟩ := hv
  refine wpList_append_own_at w hgd s x 48 ho w6.heap.size 26 i _ 1 24 Tryd.underlying48 hi hz hz1 hz2 rfl (by decide) v es.length (es.map Prod.fst) hsv h3 ⟨k, 0, none⟩ 1 1 [.slice A n c] hxv rfl (fun j u hu => ?_) (fun u hu => by obtain rfl := List.mem_singleton.1 hu; rfl) (by simp only [maxLen]; omega) (by omega) h4.size (fun v' w' r1 r2 _ _ => ?_)
  · rw [add_zero_, Nat.zero_add, hx.cell]
    simpa using hu
  · have hs : ∃ A' n' c', v' = .slice A' n' c' := by
      rcases r1.2 with ⟨rfl, _⟩ | ⟨g, cap, cur, rfl, _⟩
      · exact ⟨_, _, _, rfl⟩
      · exact ⟨_, _, _, rfl⟩
    obtain ⟨A', n', c', rfl⟩ := hs
    refine h A' n' c' w' ⟨es ++ [(.slice A n c, B)], by simp; omega, fun e he => ?_, ?_, ?_⟩
    · rw [List.mem_append, List.mem_singleton] at he
      rcases he with he | rfl
      · exact h2 e he
      · exact hB
    · rw [List.length_append, List.map_append]
      exact r1
    · refine ⟨r2.os.trans h4.os, r2.tape.trans h4.tape, r2.output.trans h4.output, Nat.le_trans h4.size r2.size, fun j hj => (r2.block j (Nat.lt_of_lt_of_le hj h4.size) fun e => ?_).trans (h4.block j hj)⟩
      rcases h3.2 with ⟨rfl, _⟩ | ⟨g, cap, cur, rfl, hbg, _⟩
      · cases e
      · simp [Value.ownBlock] at e; omega
theorem LstR.open {w6 W : World} {m : Nat} {R : Option Addr} {k d : Nat} (h : LstR w6 m (.slice R k d) W) : ∃ es : List (Value × List UInt8), es.length = k ∧ k ≤ m ∧ (∀ e ∈ es, EntB w6 e.1 e.2 ∧ Good e.2) ∧ (∀ (i : Nat) (e : Value × List UInt8), es[i]? = some e → ∃ rb, R = some ⟨rb, 0, none⟩ ∧ rb < W.heap.size ∧ W.cell? ⟨rb, i, none⟩ = some e.1) ∧ Below w6.heap.size w6 W := by
  obtain ⟨es, h1, h2, h3, h4⟩ := h
  have hk : es.length = k := by
    rcases h3.2 with ⟨e, h0⟩ | ⟨g, cap, cur, e, _⟩
    · injection e with _ e _; omega
    · injection e with _ e _; exact e.symm
  refine ⟨es, hk, by omega, h2, fun i e he => ?_, h4⟩
  rcases h3.2 with ⟨_, h0⟩ | ⟨g, cap, cur, e', hbg, hg, _⟩
  · rw [List.eq_nil_of_length_eq_zero h0] at he; simp at he
  · injection e' with e1 e2 e3
    subst e1
    refine ⟨g, rfl, (Array.getElem?_eq_some_iff.1 hg).1, ?_⟩
    have := World.ownsRow.cells (g := g) h3 (by rw [e2]; rfl) i e.1 (by simp [he])
    simpa [add_zero_] using this
theorem er_cases (o : Option (List UInt8)) : (erO o = 0 ∧ ∃ B, o = some B) ∨ (erO o = 2 ∧ o = none) := by
  cases o with
  | none => exact .inr ⟨rfl, rfl⟩
  | some B => exact .inl ⟨rfl, B, rfl⟩
set_option maxRecDepth 100000 in
set_option maxHeartbeats 8000000 in
theorem lawHolds (s : Int) (t : List UInt8) (a b : Int) (d : Bool) (w : World) (hT : TabN w) (ha : a ≤ 9223372036854775807) (hb : b ≤ 9223372036854775807) (ht : t.length ≤ 140737488355328) : Calls Tryd.prog 6 #[.int .i64 s, .string ⟨t.toArray⟩, .int .i64 a, .int .i64 b, .bool d] w (BoolR true w) := by
  unfold BoolR
  have hwk := Lib.hid (fun W (hW : Below w.heap.size w W) => works14_any W (hT.below hW))
  have hn := Lib.hid (fun n W => num14_any n W)
  unfold BoolR at hwk
  by_cases hl : t.length ≤ 1000
  · have hli : ¬ (1000 : Int) < (t.length : Int) := by omega
    have h1 := Lib.hid ((plainF_any s t w hT ht).mono (fun e w' h => AnsR.ent (fun B hB => good_plainO hB) h))
    have h2 := Lib.hid (fun W (hW : Below w.heap.size w W) => (refusal_any s W (hT.below hW)).mono (fun e w' h => AnsR.ent (fun B hB => good_refusalO hB) h))
    have h3 := Lib.hid (fun W (hW : Below w.heap.size w W) => (health_any a b d W (hT.below hW) ha hb).mono (fun e w' h => AnsR.ent (fun B hB => good_healthO ha hb hB) h))
    unfold AnsE at h1 h2 h3
    have hst := Lib.hid (fun c W (hW : Below w.heap.size w W) => streamF_any c W (hT.below hW))
    generalize An.plainO s t = o1 at *
    generalize An.refusalO s = o2 at *
    generalize An.healthO a b d = o3 at *
    clear hT ht ha hb
    go_enter Tryd.func6, Tryd.ntmps6
    go_upto_if 56 with (first
      | (go_at_call 9; (with_reducible refine Calls.mono h1.out ?_); rintro e w3 ⟨⟨A1, m1, c1, rfl, e1⟩, hb3⟩; have hb3' := Lib.hid hb3; have e1' := Lib.hid e1; clear hb3 e1)
      | (go_at_call 10; (with_reducible refine Calls.mono (h2.out _ hb3'.out) ?_); rintro e w4 ⟨⟨A2, m2, c2, rfl, e2⟩, hb4⟩; have e1'' := Lib.hid (fun B hB => (⟨(e1'.out B hB).1.below hb4, (e1'.out B hB).2⟩ : EntB w4 _ B ∧ Good B)); have hb4' := Lib.hid (below_on hb3'.out hb4); have e2' := Lib.hid e2; clear hb4 e2)
      | (go_at_call 15; (with_reducible refine Calls.mono (h3.out _ hb4'.out) ?_); rintro e w6 ⟨⟨A3, m3, c3, rfl, e3⟩, hb6⟩; have f1 := Lib.hid (fun B hB => (⟨(e1''.out B hB).1.below hb6, (e1''.out B hB).2⟩ : EntB w6 _ B ∧ Good B)); have f2 := Lib.hid (fun B hB => (⟨(e2'.out B hB).1.below hb6, (e2'.out B hB).2⟩ : EntB w6 _ B ∧ Good B)); have hb6' := Lib.hid (below_on hb4'.out hb6); have f3 := Lib.hid e3; clear hb6 e3)
      | (go_at_call 14; (with_reducible refine Calls.mono (hn.out _ _) ?_); rintro e w9 ⟨rfl, hw9⟩; obtain rfl := hw9.symm))
    have hL0 : Hid (LstR w6 0 (.slice none 0 0) w6) := Lib.hid ⟨[], Nat.le_refl _, fun e he => by simp at he, World.ownsRow_nil _ _ _ _, Below.refl _ _⟩
    go_cut [11, 13] from 32 (fun s11 _ wx => ∃ A m c, s11 = .slice A m c ∧ LstR w6 1 (.slice A m c) wx)
    case first =>
      rcases er_cases o1 with ⟨he, B, hB⟩ | ⟨he, -⟩
      · have hE := Lib.hid (f1.out B hB)
        clear hB
        go_wp2_with (at_builtin; refine wpList_append_ent rfl _ _ rfl rfl (hL0.out.below ((Below.refl _ _).alloc (Nat.le_refl _) _)) (by omega) _ A1 m1 c1 B rfl (Has.new _ _ _) hE.out ?_; intro A9 n9 c9 w9 hL9; have hL9' := Lib.hid hL9; clear hL9)
        go_meet
        case rel => exact ⟨A9, n9, c9, rfl, hL9'.out⟩
      · go_wp2
        go_meet
        case rel => exact ⟨_, _, _, rfl, hL0.out.more (by omega)⟩
    case rest =>
      obtain ⟨R1, k1, d1, rfl, hL1⟩ := hcut
      have hL1' := Lib.hid hL1
      clear hL1
      go_upto_if 63 with (go_at_call 14; (with_reducible refine Calls.mono (hn.out _ _) ?_); rintro e w9 ⟨rfl, hw9⟩; obtain rfl := hw9.symm)
      go_cut [11, 15] from 32 (fun s11 _ wx => ∃ A m c, s11 = .slice A m c ∧ LstR w6 2 (.slice A m c) wx)
      case first =>
        rcases er_cases o2 with ⟨he, B, hB⟩ | ⟨he, -⟩
        · have hE := Lib.hid (f2.out B hB)
          clear hB
          go_wp2_with (at_builtin; refine wpList_append_ent rfl _ _ rfl rfl (hL1'.out.below ((Below.refl _ _).alloc (Nat.le_refl _) _)) (by omega) _ A2 m2 c2 B rfl (Has.new _ _ _) hE.out ?_; intro A9 n9 c9 w9 hL9; have hL9' := Lib.hid hL9; clear hL9)
          go_meet
          case rel => exact ⟨A9, n9, c9, rfl, hL9'.out⟩
        · go_wp2
          go_meet
          case rel => exact ⟨_, _, _, rfl, hL1'.out.more (by omega)⟩
      case rest =>
        obtain ⟨R2, k2, d2, rfl, hL2⟩ := hcut
        have hL2' := Lib.hid hL2
        clear hL2
        go_upto_if 70 with (go_at_call 14; (with_reducible refine Calls.mono (hn.out _ _) ?_); rintro e w9 ⟨rfl, hw9⟩; obtain rfl := hw9.symm)
        go_cut [11, 17] from 32 (fun s11 _ wx => ∃ A m c, s11 = .slice A m c ∧ LstR w6 3 (.slice A m c) wx)
        case first =>
          rcases er_cases o3 with ⟨he, B, hB⟩ | ⟨he, -⟩
          · have hE := Lib.hid (f3.out B hB)
            clear hB
            go_wp2_with (at_builtin; refine wpList_append_ent rfl _ _ rfl rfl (hL2'.out.below ((Below.refl _ _).alloc (Nat.le_refl _) _)) (by omega) _ A3 m3 c3 B rfl (Has.new _ _ _) hE.out ?_; intro A9 n9 c9 w9 hL9; have hL9' := Lib.hid hL9; clear hL9)
            go_meet
            case rel => exact ⟨A9, n9, c9, rfl, hL9'.out⟩
          · go_wp2
            go_meet
            case rel => exact ⟨_, _, _, rfl, hL2'.out.more (by omega)⟩
        case rest =>
          obtain ⟨R3, k3, d3, rfl, hL3⟩ := hcut
          have hL3' := Lib.hid hL3
          clear hL3
          obtain ⟨es, hN, hk3, hgood, hrow, hB6⟩ := hL3'.out.open
          have hgood' := Lib.hid hgood
          have hN' := Lib.hid hN
          obtain ⟨q, hq⟩ : ∃ q, wc.heap.size = q := ⟨_, rfl⟩
          have hb13 := (Below.refl wc.heap.size wc).alloc (Nat.le_refl _) (.cells #[.int .i64 8192, .int .i64 65536, .int .i64 256] 50)
          have x13 := Has.new wc 50 #[.int .i64 8192, .int .i64 65536, .int .i64 256]
          rw [hq] at x13
          obtain ⟨w13, hw13⟩ : ∃ W, wc.alloc (.cells #[.int .i64 8192, .int .i64 65536, .int .i64 256] 50) = W := ⟨_, rfl⟩
          rw [hw13] at hb13 x13
          have hrow13 := Lib.hid (fun (i : Nat) (e : Value × List UInt8) (he : es[i]? = some e) => (let ⟨rb, h1, h2, h3⟩ := hrow i e he; ⟨rb, h1, Nat.lt_of_lt_of_le h2 hb13.size, (hb13.cell (p := ⟨rb, i, none⟩) h2).trans h3⟩ : ∃ rb, R3 = some ⟨rb, 0, none⟩ ∧ rb < w13.heap.size ∧ w13.cell? ⟨rb, i, none⟩ = some e.1))
          have hb613 := Lib.hid (below_on hB6 hb13)
          have hw613 := Lib.hid (below_on hb6'.out hb613.out)
          have x13' := Lib.hid x13
          have hk3I : (k3 : Int) ≤ 3 := by omega
          clear hgood hrow hB6 hN hb13 x13 hL3' hL2' hL1' hL0 f1 f2 f3 e1' e1'' e2' h1 h2 h3
          go_wp2
          go_loopw [19] (fun x W => ∃ i : Nat, i ≤ k3 ∧ x = .int .i64 (i : Int) ∧ Hid (Below w13.heap.size w13 W)) (fun x _ => k3 - (intOf x).toNat)
          case atStart => exact ⟨0, Nat.zero_le _, rfl, Lib.hid (Below.refl _ _)⟩
          case round =>
            obtain ⟨i, hi, rfl, hbr⟩ := hrel
            by_cases hlt : i < k3
            · have hltI : (i : Int) < (k3 : Int) := by omega
              obtain ⟨⟨ve, B⟩, he⟩ : ∃ e, es[i]? = some e := ⟨_, List.getElem?_eq_getElem (by have := hN'.out; omega)⟩
              obtain ⟨hE, hG⟩ := hgood'.out _ (List.mem_of_getElem? he)
              obtain ⟨rb, hR, hrb, hcell⟩ := hrow13.out i _ he
              subst hR
              have hcell2 := (hbr.out.cell (p := ⟨rb, i, none⟩) hrb).trans hcell
              have hrb2 : rb < wr.heap.size := Nat.lt_of_lt_of_le hrb hbr.out.size
              obtain ⟨g, o, c, hve, hgl, hby⟩ := (hE.below hb613.out).below hbr.out
              simp only at hve hby hcell2 hG
              subst hve
              obtain ⟨hd, fin, x, hrun, hdn, htk, hsum, hx1, hBl, hget, hfew, hlast⟩ := hG
              have hOf := Lib.hid (fun W (hW : Below wr.heap.size wr W) => of_any rfl rfl rfl B hd fin hrun hdn htk (by omega) g o c W (Nat.lt_of_lt_of_le hgl hW.size) (fun j h => (hW.cell (p := ⟨g, o + j, none⟩) hgl).trans (hby j h)))
              have hGet := Lib.hid (fun W A c (hp : Prs W A fin.fields) => (get_good (f := fin.first) (c := c) hget hfew hp))
              have hTx := Lib.hid (fun W => refText_dec x (by omega) W)
              have hlc : wr.cell? ⟨g, o + (B.length - 1), none⟩ = some (.int .u8 10) := by
                rw [hby (B.length - 1) (by omega)]
                rw [List.getElem?_eq_getElem (by omega)] at hlast
                rw [Option.some.inj hlast]; rfl
              obtain ⟨Bl, hBlen⟩ : ∃ Bl, B.length = Bl := ⟨_, rfl⟩
              rw [hBlen] at hOf hcell2 hlc hsum hBl
              have hsub : IntKind.i64.wrap ((Bl : Int) - (hd.length : Int)) = (x : Int) := by rw [IntKind.wrap_i64]; omega
              have hwu : IntKind.u64.wrap (x : Int) = (x : Int) := by rw [IntKind.wrap_u64]; omega
              have hsub1 : IntKind.i64.wrap ((Bl : Int) - 1) = ((Bl - 1 : Nat) : Int) := by rw [IntKind.wrap_i64]; omega
              obtain ⟨l1, hl1⟩ : ∃ l1, Bl - 1 = l1 := ⟨_, rfl⟩
              rw [hl1] at hlc hsub1
              have hl1a : (0 : Int) ≤ (l1 : Int) := by omega
              have hl1b : (l1 : Int) < (Bl : Int) := by omega
              obtain ⟨fs, hfs⟩ : ∃ fs, fin.fields = fs := ⟨_, rfl⟩
              rw [hfs] at hOf hGet
              obtain ⟨fl, hfl⟩ : ∃ fl, fs.length = fl := ⟨_, rfl⟩
              rw [hfl] at hGet
              generalize (⟨fin.first.toArray⟩ : ByteArray) = F at hOf hGet
              generalize (⟨(An.dec x).toArray⟩ : ByteArray) = D at hGet hTx
              generalize hd.length = nh at hOf hsub hsum
              have hcr := Lib.hid (fun W (hW : Below wr.heap.size wr W) => (hW.cell (p := ⟨rb, i, none⟩) hrb2).trans hcell2)
              have hcl := Lib.hid (fun W (hW : Below wr.heap.size wr W) => (hW.cell (p := ⟨g, o + l1, none⟩) hgl).trans hlc)
              have hbx := Lib.hid (fun W (hW : Below wr.heap.size wr W) => (x13'.out.below hbr.out x13'.out.lt).below hW (Nat.lt_of_lt_of_le x13'.out.lt hbr.out.size))
              have hbd := Lib.hid ((Below.refl wr.heap.size wr).drew)
              obtain ⟨u0, hu0⟩ : ∃ u0, wr.heap.size = u0 := ⟨_, rfl⟩
              have hbA' := hbd.out.alloc (Nat.le_refl _) (.cells #[.string ⟨#[]⟩, .slice none 0 0] 53)
              have hxA' := Has.new wr.drew 53 #[.string ⟨#[]⟩, .slice none 0 0]
              rw [show wr.drew.heap.size = u0 from hu0] at hxA'
              have hzA : (wr.drew.alloc (.cells #[.string ⟨#[]⟩, .slice none 0 0] 53)).heap.size = u0 + 1 := by rw [World.size_alloc]; exact congrArg (· + 1) hu0
              obtain ⟨wA, hwA⟩ : ∃ W, wr.drew.alloc (.cells #[.string ⟨#[]⟩, .slice none 0 0] 53) = W := ⟨_, rfl⟩
              rw [hwA] at hbA' hxA' hzA
              have hbA := Lib.hid hbA'
              have hxA := Lib.hid hxA'
              have k0 := (hbx.out _ hbd.out).cell 0
              have k1 := (hbx.out _ hbd.out).cell 1
              have k2 := (hbx.out _ hbd.out).cell 2
              have a0 := (hbx.out _ hbA.out).cell 0
              have a1 := (hbx.out _ hbA.out).cell 1
              have a2 := (hbx.out _ hbA.out).cell 2
              have kr := hcr.out _ hbd.out
              have ar := hcr.out _ hbA.out
              clear hbA' hxA' hby hE hgl hlast hrun hdn htk hget hfew hcell hcell2 hlc hBlen hfs hsum hx1 hBl
              go_upto_region 17 with (fail)
              go_cut [20, 21, 22] from 76 to 130 (fun s20 s21 s22 wx => ∃ (u : Nat) (A5 : Option Addr) (c5 : Nat), s20 = .pointer (some ⟨u, 0, none⟩) ∧ s21 = .int .i64 (nh : Int) ∧ s22 = .int .i64 0 ∧ Has wx u 53 #[.string F, .slice A5 fl c5] ∧ Prs wx A5 fs ∧ Below wr.heap.size wr wx)
              case first =>
                clear hGet hTx hcr hcl hbx hsub hwu hsub1 hl1a hl1b hgood' hN' hrow13 hb613 hw613 x13' hst hwk hn hb6' he hli hl hk3I hi hlt hl1 hrb hrb2 hw13
                go_region_law (first
                  | (go_simp
                     go_at_call 22
                     (with_reducible refine Calls.mono (hOf.out _ hbd.out) ?_)
                     rintro e w5 ⟨v5, rfl, ho5, hb5⟩
                     obtain ⟨A5, c5, hv5, hp5, -⟩ := ho5.shape
                     rw [hfl] at hv5
                     subst hv5
                     obtain ⟨u, hu⟩ : ∃ u, w5.heap.size = u := ⟨_, rfl⟩
                     obtain ⟨w9, hw9⟩ : ∃ W, w5.alloc (.cells #[.string F, .slice A5 fl c5] 53) = W := ⟨_, rfl⟩
                     have hb59 : Below w5.heap.size w5 w9 := by rw [← hw9]; exact (Below.refl _ _).alloc (Nat.le_refl _) _
                     have hx9 : Hid (Has w9 u 53 #[.string F, .slice A5 fl c5]) := Lib.hid (by rw [← hw9, ← hu]; exact Has.new _ _ _)
                     have hp9 : Hid (Prs w9 A5 fs) := Lib.hid (hp5.below hb59)
                     have hb9 : Hid (Below wr.heap.size wr w9) := Lib.hid (below_on (below_on hbd.out hb5) hb59)
                     clear hp5 ho5 hb5 hb59)
                  | (go_simp
                     go_at_call 22
                     (with_reducible refine Calls.mono (hOf.out _ hbA.out) ?_)
                     rintro e w5 ⟨v5, rfl, ho5, hb5⟩
                     obtain ⟨A5, c5, hv5, hp5, -⟩ := ho5.shape
                     rw [hfl] at hv5
                     subst hv5
                     obtain ⟨u, hu⟩ : ∃ u, u = u0 := ⟨_, rfl⟩
                     subst hu
                     have hx5 := hxA.out.below hb5 hxA.out.lt
                     have z0 := hx5.cell 0
                     have z1 := hx5.cell 1
                     have y0 := hx5.free 0
                     have y1 := hx5.free 1
                     obtain ⟨w9, hw9⟩ : ∃ W, (w5.setCell ⟨u, 0, none⟩ (.string F)).setCell ⟨u, 1, none⟩ (.slice A5 fl c5) = W := ⟨_, rfl⟩
                     have hx9 : Hid (Has w9 u 53 #[.string F, .slice A5 fl c5]) := Lib.hid (by rw [← hw9]; simpa using (hx5.put 0 (.string F)).put 1 (.slice A5 fl c5))
                     have ho9 : HdsO w9 wA.heap.size (.slice A5 fl c5) fs := by rw [← hw9]; exact ho5.kept fun g hg => kept2 _ _ (by have := (ho5.own g hg).1; omega)
                     have hp9 : Hid (Prs w9 A5 fs) := Lib.hid (by
                       obtain ⟨A6, c6, e6, hp6, -⟩ := ho9.shape
                       injection e6 with e6 _ _
                       subst e6
                       exact hp6)
                     have hb9 : Hid (Below wr.heap.size wr w9) := Lib.hid (by rw [← hw9]; exact ((below_on hbA.out hb5).setCell (p := ⟨u, 0, none⟩) (by show _ ≤ u; omega) _).setCell (p := ⟨u, 1, none⟩) (by show _ ≤ u; omega) _)
                     clear hp5 ho5 hb5 hx5 ho9))
                all_goals (
                  go_wp2_with fail
                  go_meet
                  case rel => exact ⟨_, A5, c5, rfl, rfl, rfl, hx9.out, hp9.out, hb9.out⟩)
              case rest =>
                obtain ⟨u, A5, c5, rfl, rfl, rfl, hx9, hp9, hb9⟩ := hcut
                have m0 := hx9.cell 0
                have m1 := hx9.cell 1
                have hp9' := Lib.hid hp9
                have hb9' := Lib.hid hb9
                clear hx9 hp9 hb9 k0 k1 k2 a0 a1 a2 kr ar
                go_upto_region 19 with (go_at_call 23; (with_reducible refine Calls.mono (hGet.out _ A5 c5 hp9'.out) ?_); rintro e w10 ⟨rfl, hb10⟩; have hb10' := Lib.hid (below_on hb9'.out hb10); clear hb10)
                have r1 := hcr.out _ hb10'.out.drew
                have r2 := hcl.out _ hb10'.out.drew
                have q1 := hcr.out _ hb10'.out
                have q2 := hcl.out _ hb10'.out
                clear hOf hGet hcr hcl hbx hxA hbA hbd hp9' hb9' m0 m1 hwA hzA hgood' hN' hrow13 hb613 hst hwk hn hb6' he hk3I hrb hrb2 hw13 hli hl hfl hu0
                go_quiet (first | (go_at_call 24; exact Calls.quiet_of_same (hTx.out _)))
                all_goals (
                  go_wp2
                  go_roundw
                  case rel => exact ⟨i + 1, by omega, by go_num, Lib.hid (by first | exact below_on hbr.out (below_draws hb10'.out _) | exact below_on hbr.out hb10'.out.drew | exact below_on hbr.out hb10'.out)⟩
                  case measure => simp [intOf]; omega)
            · obtain rfl : i = k3 := by omega
              clear hrow13 hgood' hN'
              go_wp2
              go_loopw [25] (fun x W => ∃ j : Nat, j ≤ 2 ∧ x = .int .i64 (j : Int) ∧ Hid (Below w13.heap.size w13 W)) (fun x _ => 2 - (intOf x).toNat)
              case atStart => exact ⟨0, by omega, rfl, hbr⟩
              case round =>
                clear hbr
                obtain ⟨j, hj, rfl, hbs⟩ := hrel
                have hbw : Below w.heap.size w wr := below_on hw613.out hbs.out
                rcases (by omega : j = 0 ∨ j = 1 ∨ j = 2) with rfl | rfl | rfl
                · skip
                  obtain ⟨fin, hrun, hdn, hB1, hB2, hget, hfew⟩ := good_stream false
                  have hS := Lib.hid (hst.out false wr hbw)
                  have hOf0 := Lib.hid (fun (W : World) (g o c : Nat) (hgl : g < W.heap.size) (hby : ∀ (j : Nat) (h : j < (An.streamB false).length), W.cell? ⟨g, o + j, none⟩ = some (.int .u8 ((An.streamB false)[j].toNat : Int))) => of_any rfl rfl rfl (An.streamB false) (An.streamB false) fin hrun hdn List.take_length (by omega) g o c W hgl hby)
                  have hGet := Lib.hid (fun W A c (hp : Prs W A fin.fields) => (get_none (f := fin.first) (c := c) hget hfew hp))
                  have hBent := Lib.hid (fun W v (h : Bz W wr.heap.size v (An.streamB false)) => h.ent hB1)
                  have hbx := Lib.hid (fun W (hW : Below wr.heap.size wr W) => (x13'.out.below hbs.out x13'.out.lt).below hW (Nat.lt_of_lt_of_le x13'.out.lt hbs.out.size))
                  obtain ⟨Bs_, hBs_⟩ : ∃ Bs_, An.streamB false = Bs_ := ⟨_, rfl⟩
                  rw [hBs_] at hS hOf0 hBent
                  obtain ⟨Bl, hBlen⟩ : ∃ Bl, Bs_.length = Bl := ⟨_, rfl⟩
                  obtain ⟨fs, hfs⟩ : ∃ fs, fin.fields = fs := ⟨_, rfl⟩
                  rw [hfs] at hOf0 hGet
                  obtain ⟨fl, hfl⟩ : ∃ fl, fs.length = fl := ⟨_, rfl⟩
                  rw [hfl] at hGet
                  generalize (⟨fin.first.toArray⟩ : ByteArray) = F at hOf0 hGet
                  clear hrun hdn hB1 hB2 hget hfew hBs_ hfs
                  go_upto_region 27 with (first
                    | (go_at_call 17
                       (with_reducible refine Calls.mono hS.out ?_)
                       rintro e w20 ⟨v, rfl, hv, hb20⟩
                       obtain ⟨g, o, c, hve, hgl, hby⟩ := hBent.out _ _ hv
                       subst hve
                       have hOf := Lib.hid (hOf0.out w20 g o c hgl hby)
                       rw [hBlen] at hOf ⊢
                       have b0 := (hbx.out _ hb20).cell 0
                       have b1 := (hbx.out _ hb20).cell 1
                       have b2 := (hbx.out _ hb20).cell 2
                       have hb20' := Lib.hid hb20
                       clear hv hb20 hgl hby)
                    | (go_at_call 22
                       (with_reducible refine Calls.mono hOf.out ?_)
                       rintro e w21 ⟨v5, rfl, ho5, hb5⟩
                       obtain ⟨A5, c5, hv5, hp5, -⟩ := ho5.shape
                       rw [hfl] at hv5
                       subst hv5
                       obtain ⟨u, hu⟩ : ∃ u, w21.heap.size = u := ⟨_, rfl⟩
                       obtain ⟨w22, hw22⟩ : ∃ W, w21.alloc (.cells #[.string F, .slice A5 fl c5] 53) = W := ⟨_, rfl⟩
                       have hb22 : Below w21.heap.size w21 w22 := by rw [← hw22]; exact (Below.refl _ _).alloc (Nat.le_refl _) _
                       have hx22 : Has w22 u 53 #[.string F, .slice A5 fl c5] := by rw [← hw22, ← hu]; exact Has.new _ _ _
                       have m0 := hx22.cell 0
                       have m1 := hx22.cell 1
                       have hp22 : Hid (Prs w22 A5 fs) := Lib.hid (hp5.below hb22)
                       have hb22' : Hid (Below wr.heap.size wr w22) := Lib.hid (below_on (below_on hb20'.out hb5) hb22)
                       clear hp5 ho5 hb5 hb22 hx22)
                    | (go_at_call 23
                       (with_reducible refine Calls.mono (hGet.out _ A5 c5 hp22.out) ?_)
                       rintro e w23 ⟨⟨sx, rfl⟩, hb23⟩
                       have hb23' := Lib.hid (below_on hb22'.out hb23)
                       clear hb23))
                  go_wp2
                  exact ⟨⟨1, by omega, by first | rfl | go_num, Lib.hid (below_on hbs.out hb23'.out)⟩, by simp [intOf]⟩
                · skip
                  obtain ⟨fin, hrun, hdn, hB1, hB2, hget, hfew⟩ := good_stream true
                  have hS := Lib.hid (hst.out true wr hbw)
                  have hOf0 := Lib.hid (fun (W : World) (g o c : Nat) (hgl : g < W.heap.size) (hby : ∀ (j : Nat) (h : j < (An.streamB true).length), W.cell? ⟨g, o + j, none⟩ = some (.int .u8 ((An.streamB true)[j].toNat : Int))) => of_any rfl rfl rfl (An.streamB true) (An.streamB true) fin hrun hdn List.take_length (by omega) g o c W hgl hby)
                  have hGet := Lib.hid (fun W A c (hp : Prs W A fin.fields) => (get_none (f := fin.first) (c := c) hget hfew hp))
                  have hBent := Lib.hid (fun W v (h : Bz W wr.heap.size v (An.streamB true)) => h.ent hB1)
                  have hbx := Lib.hid (fun W (hW : Below wr.heap.size wr W) => (x13'.out.below hbs.out x13'.out.lt).below hW (Nat.lt_of_lt_of_le x13'.out.lt hbs.out.size))
                  obtain ⟨Bs_, hBs_⟩ : ∃ Bs_, An.streamB true = Bs_ := ⟨_, rfl⟩
                  rw [hBs_] at hS hOf0 hBent
                  obtain ⟨Bl, hBlen⟩ : ∃ Bl, Bs_.length = Bl := ⟨_, rfl⟩
                  obtain ⟨fs, hfs⟩ : ∃ fs, fin.fields = fs := ⟨_, rfl⟩
                  rw [hfs] at hOf0 hGet
                  obtain ⟨fl, hfl⟩ : ∃ fl, fs.length = fl := ⟨_, rfl⟩
                  rw [hfl] at hGet
                  generalize (⟨fin.first.toArray⟩ : ByteArray) = F at hOf0 hGet
                  clear hrun hdn hB1 hB2 hget hfew hBs_ hfs
                  go_upto_region 27 with (first
                    | (go_at_call 17
                       (with_reducible refine Calls.mono hS.out ?_)
                       rintro e w20 ⟨v, rfl, hv, hb20⟩
                       obtain ⟨g, o, c, hve, hgl, hby⟩ := hBent.out _ _ hv
                       subst hve
                       have hOf := Lib.hid (hOf0.out w20 g o c hgl hby)
                       rw [hBlen] at hOf ⊢
                       have b0 := (hbx.out _ hb20).cell 0
                       have b1 := (hbx.out _ hb20).cell 1
                       have b2 := (hbx.out _ hb20).cell 2
                       have hb20' := Lib.hid hb20
                       clear hv hb20 hgl hby)
                    | (go_at_call 22
                       (with_reducible refine Calls.mono hOf.out ?_)
                       rintro e w21 ⟨v5, rfl, ho5, hb5⟩
                       obtain ⟨A5, c5, hv5, hp5, -⟩ := ho5.shape
                       rw [hfl] at hv5
                       subst hv5
                       obtain ⟨u, hu⟩ : ∃ u, w21.heap.size = u := ⟨_, rfl⟩
                       obtain ⟨w22, hw22⟩ : ∃ W, w21.alloc (.cells #[.string F, .slice A5 fl c5] 53) = W := ⟨_, rfl⟩
                       have hb22 : Below w21.heap.size w21 w22 := by rw [← hw22]; exact (Below.refl _ _).alloc (Nat.le_refl _) _
                       have hx22 : Has w22 u 53 #[.string F, .slice A5 fl c5] := by rw [← hw22, ← hu]; exact Has.new _ _ _
                       have m0 := hx22.cell 0
                       have m1 := hx22.cell 1
                       have hp22 : Hid (Prs w22 A5 fs) := Lib.hid (hp5.below hb22)
                       have hb22' : Hid (Below wr.heap.size wr w22) := Lib.hid (below_on (below_on hb20'.out hb5) hb22)
                       clear hp5 ho5 hb5 hb22 hx22)
                    | (go_at_call 23
                       (with_reducible refine Calls.mono (hGet.out _ A5 c5 hp22.out) ?_)
                       rintro e w23 ⟨⟨sx, rfl⟩, hb23⟩
                       have hb23' := Lib.hid (below_on hb22'.out hb23)
                       clear hb23))
                  go_wp2
                  exact ⟨⟨2, by omega, by first | rfl | go_num, Lib.hid (below_on hbs.out hb23'.out)⟩, by simp [intOf]⟩
                · go_wp2_with (go_at_call 7; (with_reducible refine Calls.mono (hwk.out _ hbw) ?_); rintro e w8 ⟨rfl, hb8⟩; have hb8' := Lib.hid (below_on hbw hb8); clear hb8)
                  go_ret
                  exact ⟨rfl, hb8'.out⟩
  · have hli : (1000 : Int) < (t.length : Int) := by omega
    clear hT
    go_enter Tryd.func6, Tryd.ntmps6
    go_wp2_with (go_at_call 7; (with_reducible refine Calls.mono (hwk.out _ (Below.refl _ _)) ?_); rintro e w8 ⟨rfl, hb8⟩; have hb8' := Lib.hid hb8; clear hb8)
    go_ret
    exact ⟨rfl, hb8'.out⟩
end Go.Proofs.YtabgpnieekcdhaaDoor
