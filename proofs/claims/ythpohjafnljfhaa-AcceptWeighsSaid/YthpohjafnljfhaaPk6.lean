import Derived.Test.YthpohjafnljfhaaPk29
import Derived.Test.YthpohjafnljfhaaPk32
import Derived.Test.YthpohjafnljfhaaPk35
import Derived.Defers
import Derived.Recover
import Derived.Laws.Pointers
import Derived.Laws.RangeAny
namespace Go.Proofs.Ythpohjafnljfhaa
open Go.RowKit Go.Shelf
attribute [local go_sem] Oper.semAt_some

/-! ## What is wrong is given up by; type and subtype -/
def gaveVA : Value := .iface 52 (.agg #[.int .i64 220])
def gaveDA : List PanicEntry := [{ v := gaveVA, recovered := false }]
abbrev gaveEA : Ending := .panicked gaveDA
theorem mustA_yes (w : World) : Calls Try.prog 25 #[.bool true] w fun e w' => e = .returned (.tuple #[]) ∧ w' = w := by
  go_enter Try.func25, Try.ntmps25
  go_wp2
  go_end0
  exact ⟨rfl, rfl⟩
theorem mustA_no (w : World) : Calls Try.prog 25 #[.bool false] w fun e w' => e = gaveEA ∧ w' = w := by
  go_enter Try.func25, Try.ntmps25
  go_wp2
  exact ⟨rfl, rfl, rfl⟩
theorem cutA_any (k : UInt8) (s : List UInt8) (w : World) (hs : s.length ≤ 1000000) (hM : TabA w) : ∃ f, Calls Try.prog 48 #[.string ⟨s.toArray⟩, .string ⟨#[k]⟩] w fun e w' =>
    e = .returned (.tuple #[.string ⟨(Ac.tw k s).toArray⟩, .string ⟨(Ac.bh k s).toArray⟩, .bool f]) ∧ Below w.heap.size w w' := by
  obtain ⟨m, hm⟩ := hM
  have hc := Try.strings_Cut ⟨s.toArray⟩ ⟨#[k]⟩ m w (by show s.length < _; omega) (hm.cell 0)
  rw [show (⟨s.toArray⟩ : ByteArray).data.toList = s from rfl, show (⟨#[k]⟩ : ByteArray).data.toList = [k] from rfl, (Ac.cut_tw k s).1, (Ac.cut_tw k s).2] at hc
  exact ⟨_, hc.mono fun e w' ⟨he, n, hw⟩ => ⟨he, by rw [hw]; exact below_draws (Below.refl _ _) n⟩⟩
def namesP (a b : List UInt8) : Option (List UInt8 × List UInt8) := if tokenL a = true ∧ tokenL b = true ∧ ¬ (a = [42] ∧ b ≠ [42]) then some (lowerL a, lowerL b) else none
theorem names_P (s : List UInt8) : Ac.names s = namesP (Ac.tw 47 s) (Ac.bh 47 s) := by
  rw [Ac.names_eq]
  rfl
theorem namesP_no {a b : List UInt8} (h1 : tokenL a = true) (h2 : tokenL b = true) (h : namesP a b = none) : a = [42] ∧ b ≠ [42] := by
  unfold namesP at h
  split at h
  · cases h
  · rename_i hn
    rcases Classical.em (a = [42] ∧ b ≠ [42]) with h | h
    · exact h
    · exact absurd ⟨h1, h2, h⟩ hn
theorem namesP_yes {a b : List UInt8} {x : List UInt8 × List UInt8} (h : namesP a b = some x) : tokenL a = true ∧ tokenL b = true ∧ ¬ (a = [42] ∧ b ≠ [42]) ∧ x = (lowerL a, lowerL b) := by
  unfold namesP at h
  split at h
  · rename_i hn
    exact ⟨hn.1, hn.2.1, hn.2.2, (Option.some.inj h).symm⟩
  · cases h
/-- A range that is read. -/
def RdR (W : World) (k : Nat) (ty sub : List UInt8) (pa q : Nat) (wd : Bool) : Prop := Has W k 72 #[.string ⟨ty.toArray⟩, .string ⟨sub.toArray⟩, .int .i64 (pa : Int), .int .i64 (q : Int), .bool wd]
theorem RdR.on {w W : World} {k : Nat} {ty sub : List UInt8} {pa q : Nat} {wd : Bool} (h : RdR w k ty sub pa q wd) (hb : Below w.heap.size w W) : RdR W k ty sub pa q wd := Has.below h hb (Has.lt h)
def NamesR (o : Option (List UInt8 × List UInt8)) (k pa q : Nat) (wd : Bool) (w : World) (e : Ending) (w' : World) : Prop := (match o with
  | some x => e = .returned (.tuple #[]) ∧ RdR w' k x.1 x.2 pa q wd
  | none => e = gaveEA) ∧ Below k w w'
set_option maxRecDepth 100000 in
set_option maxHeartbeats 2000000 in
theorem names_no (s : List UInt8) (k pa q : Nat) (wd : Bool) (w : World) (hT : TabA w) (hs : s.length ≤ 1000000) (hk : RdR w k [] [] pa q wd) (hn : Ac.names s = none) : Calls Try.prog 35 #[.pointer (some ⟨k, 0, none⟩), .string ⟨s.toArray⟩] w (NamesR none k pa q wd w) := by
  unfold NamesR
  obtain ⟨f, h1⟩ := cutA_any 47 s w hs hT
  rw [names_P] at hn
  have l1 := Ac.tw_len 47 s
  have l2 := Ac.bh_len 47 s
  have hkl := Lib.hid (show k ≤ w.heap.size from Nat.le_of_lt (Has.lt hk))
  generalize Ac.tw 47 s = a at *
  generalize Ac.bh 47 s = b at *
  have h2 := fun W => token_any a W (by omega)
  have h3 := fun W => token_any b W (by omega)
  unfold BoolR at h2 h3
  clear l1 l2 hk hT
  cases ha : tokenL a with
  | false =>
    rw [ha] at h2
    have h1' := Lib.hid h1
    have h2' := Lib.hid h2
    clear h1 h2 h3 hn ha
    go_enter Try.func35, Try.ntmps35
    go_wp2_with (first
      | (go_at_call 48; (with_reducible refine Calls.mono h1'.out ?_); rintro e w1 ⟨rfl, hb1⟩; have hb1' := Lib.hid hb1; clear hb1)
      | (go_at_call 49; (with_reducible refine Calls.mono (h2'.out _) ?_); rintro e w2 ⟨rfl, hb2⟩; have hb2' := Lib.hid hb2; clear hb2)
      | (go_at_call 25; (with_reducible refine Calls.mono (mustA_no _) ?_); rintro e w3 ⟨rfl, hw3⟩; obtain rfl := hw3.symm))
    exact ⟨rfl, rfl, (below_on hb1'.out hb2'.out).mono hkl.out⟩
  | true =>
    rw [ha] at h2
    cases hb : tokenL b with
    | false =>
      rw [hb] at h3
      have h1' := Lib.hid h1
      have h2' := Lib.hid h2
      have h3' := Lib.hid h3
      clear h1 h2 h3 hn ha hb
      go_enter Try.func35, Try.ntmps35
      go_wp2_with (first
        | (go_at_call 48; (with_reducible refine Calls.mono h1'.out ?_); rintro e w1 ⟨rfl, hb1⟩; have hb1' := Lib.hid hb1; clear hb1)
        | (go_at_call 49; (with_reducible refine Calls.mono (h2'.out _) ?_); rintro e w2 ⟨rfl, hb2⟩; have hb2' := Lib.hid hb2; clear hb2)
        | (go_at_call 49; (with_reducible refine Calls.mono (h3'.out _) ?_); rintro e w4 ⟨rfl, hb4⟩; have hb4' := Lib.hid hb4; clear hb4)
        | (go_at_call 25; (with_reducible refine Calls.mono (mustA_no _) ?_); rintro e w3 ⟨rfl, hw3⟩; obtain rfl := hw3.symm))
      exact ⟨rfl, rfl, (below_on (below_on hb1'.out hb2'.out) hb4'.out).mono hkl.out⟩
    | true =>
      rw [hb] at h3
      obtain ⟨rfl, hbs⟩ := namesP_no ha hb hn
      have hbe : (b == [42]) = false := by simpa using hbs
      have h1' := Lib.hid h1
      have h2' := Lib.hid h2
      have h3' := Lib.hid h3
      clear h1 h2 h3 hn ha hb hbs
      go_enter Try.func35, Try.ntmps35
      go_wp2_with (first
        | (go_at_call 48; (with_reducible refine Calls.mono h1'.out ?_); rintro e w1 ⟨rfl, hb1⟩; have hb1' := Lib.hid hb1; clear hb1)
        | (go_at_call 49; (with_reducible refine Calls.mono (h2'.out _) ?_); rintro e w2 ⟨rfl, hb2⟩; have hb2' := Lib.hid hb2; clear hb2)
        | (go_at_call 49; (with_reducible refine Calls.mono (h3'.out _) ?_); rintro e w4 ⟨rfl, hb4⟩; have hb4' := Lib.hid hb4; clear hb4)
        | (go_at_call 25; (with_reducible refine Calls.mono (mustA_yes _) ?_); rintro e w3 ⟨rfl, hw3⟩; obtain rfl := hw3.symm)
        | (go_at_call 25; (with_reducible refine Calls.mono (mustA_no _) ?_); rintro e w3 ⟨rfl, hw3⟩; obtain rfl := hw3.symm))
      exact ⟨rfl, rfl, (below_on (below_on hb1'.out hb2'.out) hb4'.out).mono hkl.out⟩
set_option maxRecDepth 100000 in
set_option maxHeartbeats 2000000 in
theorem names_yes (s : List UInt8) (k pa q : Nat) (wd : Bool) (w : World) (hT : TabA w) (hs : s.length ≤ 1000000) (hk : RdR w k [] [] pa q wd) (x : List UInt8 × List UInt8) (hn : Ac.names s = some x) : Calls Try.prog 35 #[.pointer (some ⟨k, 0, none⟩), .string ⟨s.toArray⟩] w (NamesR (some x) k pa q wd w) := by
  unfold NamesR
  obtain ⟨f, h1⟩ := cutA_any 47 s w hs hT
  rw [names_P] at hn
  have l1 := Ac.tw_len 47 s
  have l2 := Ac.bh_len 47 s
  have hkl := Lib.hid (show k ≤ w.heap.size from Nat.le_of_lt (Has.lt hk))
  generalize Ac.tw 47 s = a at *
  generalize Ac.bh 47 s = b at *
  have h2 := fun W => token_any a W (by omega)
  have h3 := fun W => token_any b W (by omega)
  have h4 := fun W => lower_any a W (by omega)
  have h5 := fun W => lower_any b W (by omega)
  unfold BoolR at h2 h3
  unfold StrR at h4 h5
  obtain ⟨ha, hb, hst, rfl⟩ := namesP_yes hn
  rw [ha] at h2
  rw [hb] at h3
  have hor : ((a == [42]) = false) ∨ ((a == [42]) = true ∧ (b == [42]) = true) := by
    by_cases h : a = [42]
    · refine .inr ⟨by simpa using h, ?_⟩
      rcases Classical.em (b = [42]) with h' | h'
      · simpa using h'
      · exact absurd ⟨h, h'⟩ hst
    · exact .inl (by simpa using h)
  have h1' := Lib.hid h1
  have h2' := Lib.hid h2
  have h3' := Lib.hid h3
  generalize lowerL a = la at *
  generalize lowerL b = lb at *
  have h4' := Lib.hid h4
  have h5' := Lib.hid h5
  have hk' := Lib.hid hk
  clear h1 h2 h3 h4 h5 hn ha hb hst l1 l2 hT hk
  rcases hor with hae | ⟨hae, hbe⟩
  all_goals
    go_enter Try.func35, Try.ntmps35
    go_wp2_with (first
      | (go_at_call 48; (with_reducible refine Calls.mono h1'.out ?_); rintro e w1 ⟨rfl, hb1⟩; have hb1' := Lib.hid hb1; clear hb1)
      | (go_at_call 49; (with_reducible refine Calls.mono (h2'.out _) ?_); rintro e w2 ⟨rfl, hb2⟩; have hb2' := Lib.hid (below_on hb1'.out hb2); clear hb2)
      | (go_at_call 49; (with_reducible refine Calls.mono (h3'.out _) ?_); rintro e w4 ⟨rfl, hb4⟩; have hb4' := Lib.hid (below_on hb2'.out hb4); clear hb4)
      | (go_at_call 25; (with_reducible refine Calls.mono (mustA_yes _) ?_); rintro e w3 ⟨rfl, hw3⟩; obtain rfl := hw3.symm)
      | (go_at_call 50; (with_reducible refine Calls.mono (h4'.out _) ?_); rintro e w5 ⟨rfl, hb5⟩; have hb5' := Lib.hid (below_on hb4'.out hb5); clear hb5)
      | (go_at_call 50; (with_reducible refine Calls.mono (h5'.out _) ?_); rintro e w6 ⟨rfl, hb6⟩; have hb6' := Lib.hid (below_on hb5'.out hb6); have k6 := hk'.out.on (below_on hb5'.out hb6); have c0 := k6.cell 0; have f0 := k6.free 0; have p6 := k6.put 0 (.string ⟨la.toArray⟩); have c1 := p6.cell 1; have f1 := p6.free 1; have p7 := Lib.hid (p6.put 1 (.string ⟨lb.toArray⟩)); clear hb6 k6 p6))
    go_end0
    refine ⟨⟨rfl, ?_⟩, ((hb6'.out.mono hkl.out).setCell (p := ⟨k, 0, none⟩) (Nat.le_refl _) _).setCell (p := ⟨k, 1, none⟩) (Nat.le_refl _) _⟩
    have := p7.out
    simpa [RdR] using this
end Go.Proofs.Ythpohjafnljfhaa

namespace Go.Proofs.Ythpohjafnljfhaa
open Go.RowKit Go.Shelf
attribute [local go_sem] Oper.semAt_some app_str

/-! ## Thousandths -/
def ThouR (o : Option Nat) (w : World) (e : Ending) (w' : World) : Prop := (match o with
  | some n => e = .returned (.int .i64 (n : Int))
  | none => e = gaveEA) ∧ Below w.heap.size w w'
theorem thouR_no {o : Option Nat} {w w' : World} (h : o = none) (hb : Below w.heap.size w w') : ThouR o w gaveEA w' := by subst h; exact ⟨rfl, hb⟩
theorem thouR_yes {o : Option Nat} {n : Nat} {w w' : World} (h : o = some n) (hb : Below w.heap.size w w') : ThouR o w (.returned (.int .i64 (n : Int))) w' := by subst h; exact ⟨rfl, hb⟩
theorem sumT_at {u : List UInt8} {pos wt x : Nat} (h : pos < u.length) (hx : x + Ac.sumT wt (u.drop pos) = Ac.sumT 1000 u) : x + wt * (u[pos].toNat - 48) + Ac.sumT (wt / 10) (u.drop (pos + 1)) = Ac.sumT 1000 u := by
  have e : Ac.sumT wt (u[pos] :: u.drop (pos + 1)) = wt * (u[pos].toNat - 48) + Ac.sumT (wt / 10) (u.drop (pos + 1)) := rfl
  rw [List.drop_eq_getElem_cons h, e] at hx
  omega
theorem take_dig {u : List UInt8} {pos : Nat} (h : pos < u.length) (ht : ∀ b ∈ u.take pos, Ac.dig b = true) (hd : Ac.dig u[pos] = true) : ∀ b ∈ u.take (pos + 1), Ac.dig b = true := fun b hb => by
  rw [List.take_succ_eq_append_getElem h] at hb
  rcases List.mem_append.1 hb with hb | hb
  · exact ht b hb
  · rw [List.mem_singleton.1 hb]; exact hd
/-- What stands at a place: a digit, or a point that is none. -/
theorem point_at (u : List UInt8) {pos : Nat} (h : pos < u.length) : (Ac.dig u[pos] = true ∧ Utf8.decode ⟨u.toArray⟩ pos = (u[pos].toNat, 1) ∧ 48 ≤ u[pos].toNat ∧ u[pos].toNat ≤ 57) ∨ (Ac.dig u[pos] = false ∧ ((Utf8.decode ⟨u.toArray⟩ pos).1 < 48 ∨ 57 < (Utf8.decode ⟨u.toArray⟩ pos).1)) := by
  have e : ∀ b : UInt8, Ac.dig b = true ↔ 48 ≤ b.toNat ∧ b.toNat ≤ 57 := fun b => by
    unfold Ac.dig
    rw [Bool.and_eq_true, decide_eq_true_iff, decide_eq_true_iff, UInt8.le_iff_toNat_le, UInt8.le_iff_toNat_le]
    exact Iff.rfl
  have hb : (⟨u.toArray⟩ : ByteArray)[pos]'h = u[pos] := rfl
  by_cases hh : u[pos].toNat < 128
  · have hd : Utf8.decode ⟨u.toArray⟩ pos = (u[pos].toNat, 1) := decode_ascii ⟨u.toArray⟩ pos h hh
    cases hg : Ac.dig u[pos] with
    | true => exact .inl ⟨rfl, hd, ((e _).1 hg).1, ((e _).1 hg).2⟩
    | false =>
      refine .inr ⟨rfl, ?_⟩
      rw [hd]
      have : ¬ (48 ≤ u[pos].toNat ∧ u[pos].toNat ≤ 57) := fun h' => by rw [(e _).2 h'] at hg; cases hg
      show u[pos].toNat < 48 ∨ 57 < u[pos].toNat
      omega
  · have := (decode_high ⟨u.toArray⟩ pos h (by rw [hb]; omega)).1
    refine .inr ⟨?_, .inr (by omega)⟩
    cases hg : Ac.dig u[pos] with
    | true => have := (e _).1 hg; omega
    | false => rfl
theorem thouP_dig {a d : List UInt8} {b : UInt8} (h : b ∈ a ++ d) (hd : Ac.dig b = false) : Ac.thouP a d = none := by
  unfold Ac.thouP
  rw [if_neg (fun h' => by rw [h'.2.2.1 b h] at hd; cases hd)]
theorem thouP_all {a d u : List UInt8} (hu : a ++ d = u) (ha : a = [48] ∨ a = [49]) (hd : d.length ≤ 3) (hg : ∀ b ∈ u, Ac.dig b = true) (hx : Ac.sumT 1000 u ≤ 1000) : Ac.thouP a d = some (Ac.sumT 1000 u) := by
  subst hu
  unfold Ac.thouP
  rw [if_pos ⟨ha, hd, hg, hx⟩]
theorem thouP_much {a d u : List UInt8} (hu : a ++ d = u) (hx : 1000 < Ac.sumT 1000 u) : Ac.thouP a d = none := by
  subst hu
  unfold Ac.thouP
  rw [if_neg (fun h => by omega)]
set_option maxRecDepth 100000 in
set_option maxHeartbeats 4000000 in
theorem thouT_any (s : List UInt8) (w : World) (hT : TabA w) (hs : s.length ≤ 1000000) : Calls Try.prog 58 #[.string ⟨s.toArray⟩] w (ThouR (Ac.thou s) w) := by
  rw [Ac.thou_eq]
  obtain ⟨f, h1⟩ := cutA_any 46 s w hs hT
  have l2 := Ac.bh_len 46 s
  generalize Ac.tw 46 s = a at *
  generalize Ac.bh 46 s = d at *
  have h1' := Lib.hid h1
  have hdI : (d.length : Int) ≤ 1000000 := by omega
  clear h1 hT
  by_cases ha : a = [48] ∨ a = [49]
  · by_cases hd3 : d.length ≤ 3
    · have hd3I : (d.length : Int) ≤ 3 := by omega
      obtain ⟨u, hu⟩ : ∃ u, a ++ d = u := ⟨_, rfl⟩
      have hul : u.length ≤ 4 := by rw [← hu]; rcases ha with rfl | rfl <;> (simp; omega)
      have hu' := Lib.hid hu
      clear hu
      rcases ha with rfl | rfl
      all_goals
        have hu2 := hu'.out
        go_enter Try.func58, Try.ntmps58
        go_wp2_with (first
          | (go_at_call 48; (with_reducible refine Calls.mono h1'.out ?_); rintro e w1 ⟨rfl, hb1⟩; have hb1' := Lib.hid hb1; clear hb1)
          | (go_at_call 25; (with_reducible refine Calls.mono (mustA_yes _) ?_); rintro e w3 ⟨rfl, hw3⟩; obtain rfl := hw3.symm))
        obtain ⟨g, hg⟩ : ∃ g, w1.heap.size = g := ⟨_, rfl⟩
        have hb1g : Below g w1 w1 := Below.refl _ _
        rw [hg]
        go_loopw [6, 7, 9] (fun x6 x7 _ W => ∃ pos x wt : Nat, pos ≤ u.length ∧ x6 = .int .i64 (x : Int) ∧ x7 = .int .i64 (wt : Int) ∧ W.heap[g]? = some (.stringIter ⟨u.toArray⟩ pos) ∧ Hid (x + Ac.sumT wt (u.drop pos) = Ac.sumT 1000 u) ∧ Hid (∀ b ∈ u.take pos, Ac.dig b = true) ∧ x ≤ 9000 * pos ∧ Hid (pos = 0 ∧ wt = 1000 ∨ pos = 1 ∧ wt = 100 ∨ pos = 2 ∧ wt = 10 ∨ pos = 3 ∧ wt = 1 ∨ pos = 4 ∧ wt = 0) ∧ Below g w1 W) (fun _ _ _ W => u.length - W.iterPos g)
        case atStart => exact ⟨0, 0, 1000, Nat.zero_le _, rfl, rfl, by rw [← hg]; exact World.iter_heap _ _ _, Lib.hid (by rw [List.drop_zero, Nat.zero_add]), Lib.hid (by simp), Nat.le_refl _, Lib.hid (.inl ⟨rfl, rfl⟩), hb1g.alloc (by omega) _⟩
        case round =>
          obtain ⟨pos, x, wt, hpos, rfl, rfl, hit, hsum, hdig, hx, hwt, hb⟩ := hrel
          have hip : wr.iterPos g = pos := by unfold World.iterPos; rw [hit]
          by_cases hlt : pos < u.length
          · have hnx : ∀ ty, (Instr.next (.pointer (some ⟨g, 0, none⟩)) true ty).run Try.prog wr = _ := fun ty => Lib.run_next_any_at wr g ⟨u.toArray⟩ pos ty hit hlt
            have hbW2 : Below g w1 (wr.iterAt g ⟨u.toArray⟩ (pos + (Utf8.decode ⟨u.toArray⟩ pos).2)) := Lib.below_iterAt hb (by omega) _ _
            have hit2 : (wr.iterAt g ⟨u.toArray⟩ (pos + (Utf8.decode ⟨u.toArray⟩ pos).2)).heap[g]? = some (.stringIter ⟨u.toArray⟩ (pos + (Utf8.decode ⟨u.toArray⟩ pos).2)) := Lib.iterAt_heap wr g ⟨u.toArray⟩ pos _ hit
            rcases point_at u hlt with ⟨hd, hde, k1, k2⟩ | ⟨hd, hor⟩
            · rw [hde] at hnx hbW2 hit2
              simp only at hnx hbW2 hit2
              obtain ⟨W1, hW1⟩ : ∃ W1, wr.iterAt g ⟨u.toArray⟩ (pos + 1) = W1 := ⟨_, rfl⟩
              rw [hW1] at hnx hbW2 hit2
              have hit' := Lib.hid hit2
              have hb' := Lib.hid hbW2
              have hip' := Lib.hid hip
              have hs2 := Lib.hid (sumT_at hlt hsum.out)
              have hd2 := Lib.hid (take_dig hlt hdig.out hd)
              clear hW1 hit2 hbW2 hit hip hsum hdig hd hde hb
              have k1I : (48 : Int) ≤ (u[pos].toNat : Int) := by omega
              have k2I : (u[pos].toNat : Int) ≤ 57 := by omega
              generalize u[pos].toNat = c at *
              have hwt' := hwt.out
              clear hwt
              rcases hwt' with ⟨rfl, rfl⟩ | ⟨rfl, rfl⟩ | ⟨rfl, rfl⟩ | ⟨rfl, rfl⟩ | ⟨rfl, rfl⟩
              all_goals
                first
                | (exfalso; omega)
                | (go_wp2_with (go_at_call 25; (with_reducible refine Calls.mono (mustA_yes _) ?_); rintro e w3 ⟨rfl, hw3⟩; obtain rfl := hw3.symm)
                   refine ⟨⟨_, x + _ * (c - 48), _, by omega, ?_, rfl, hit'.out, hs2, hd2, by omega, Lib.hid (by simp), hb'.out⟩, by rw [hip'.out]; unfold World.iterPos; rw [hit'.out]; simp; omega⟩
                   congr 1
                   omega)
            · have hno := Lib.hid (thouP_dig (a := _) (d := d) (b := u[pos]) (by rw [hu'.out]; exact List.getElem_mem hlt) hd)
              generalize (Utf8.decode ⟨u.toArray⟩ pos).2 = n at *
              generalize (Utf8.decode ⟨u.toArray⟩ pos).1 = r at *
              obtain ⟨W1, hW1⟩ : ∃ W1, wr.iterAt g ⟨u.toArray⟩ (pos + n) = W1 := ⟨_, rfl⟩
              rw [hW1] at hnx hbW2 hit2
              have hb' := Lib.hid hbW2
              clear hW1 hit2 hbW2 hit hip hsum hdig hd hb hwt
              by_cases hr : r < 48
              · have hrI : ¬ (48 : Int) ≤ (r : Int) := by omega
                clear hor hr
                go_wp2_with (go_at_call 25; (with_reducible refine Calls.mono (mustA_no _) ?_); rintro e w3 ⟨rfl, hw3⟩; obtain rfl := hw3.symm)
                exact ⟨rfl, thouR_no hno.out (hb1'.out.trans (hb'.out.mono (by have := hb1'.out.size; omega)))⟩
              · have hrI : (48 : Int) ≤ (r : Int) := by omega
                have hrJ : ¬ (r : Int) ≤ 57 := by omega
                clear hor hr
                go_wp2_with (go_at_call 25; (with_reducible refine Calls.mono (mustA_no _) ?_); rintro e w3 ⟨rfl, hw3⟩; obtain rfl := hw3.symm)
                exact ⟨rfl, thouR_no hno.out (hb1'.out.trans (hb'.out.mono (by have := hb1'.out.size; omega)))⟩
          · obtain rfl : pos = u.length := by omega
            have hnx : ∀ ty, (Instr.next (.pointer (some ⟨g, 0, none⟩)) true ty).run Try.prog wr = _ := fun ty => Lib.run_next_end_at wr g ⟨u.toArray⟩ u.length ty hit (by show ¬ _ < u.toArray.size; simp)
            have hs1 := hsum.out
            have hd1 := hdig.out
            rw [List.drop_length] at hs1
            rw [List.take_length] at hd1
            have hxs : x = Ac.sumT 1000 u := by simpa [Ac.sumT] using hs1
            have hb' := Lib.hid hb
            by_cases hx1 : x ≤ 1000
            · have hyes := Lib.hid (thouP_all (hu'.out) (by first | exact .inl rfl | exact .inr rfl) hd3 hd1 (by omega))
              have hx1I : (x : Int) ≤ 1000 := by omega
              have hxs' := Lib.hid hxs
              clear hb hit hip hs1 hd1 hsum hdig hxs hwt
              go_wp2_with (go_at_call 25; (with_reducible refine Calls.mono (mustA_yes _) ?_); rintro e w3 ⟨rfl, hw3⟩; obtain rfl := hw3.symm)
              go_ret
              refine thouR_yes (hyes.out.trans (by rw [hxs'.out])) (hb1'.out.trans (hb'.out.mono (by have := hb1'.out.size; omega)))
            · have hno := Lib.hid (thouP_much (hu'.out) (by omega))
              have hx1I : ¬ (x : Int) ≤ 1000 := by omega
              clear hb hit hip hs1 hd1 hsum hdig hxs hwt
              go_wp2_with (go_at_call 25; (with_reducible refine Calls.mono (mustA_no _) ?_); rintro e w3 ⟨rfl, hw3⟩; obtain rfl := hw3.symm)
              exact ⟨rfl, thouR_no hno.out (hb1'.out.trans (hb'.out.mono (by have := hb1'.out.size; omega)))⟩
    · have hno := Lib.hid (show Ac.thouP a d = none by unfold Ac.thouP; rw [if_neg (fun h => hd3 h.2.1)])
      have hd3I : decide ((d.length : Int) ≤ 3) = false := decide_eq_false (by omega)
      clear hd3
      rcases ha with rfl | rfl
      all_goals
        go_enter Try.func58, Try.ntmps58
        go_wp2_with (first
          | (go_at_call 48; (with_reducible refine Calls.mono h1'.out ?_); rintro e w1 ⟨rfl, hb1⟩; have hb1' := Lib.hid hb1; clear hb1)
          | (go_at_call 25; (with_reducible refine Calls.mono (mustA_yes _) ?_); rintro e w3 ⟨rfl, hw3⟩; obtain rfl := hw3.symm)
          | (go_at_call 25; (with_reducible refine Calls.mono (mustA_no _) ?_); rintro e w3 ⟨rfl, hw3⟩; obtain rfl := hw3.symm))
        exact ⟨rfl, thouR_no hno.out hb1'.out⟩
  · have hno := Lib.hid (show Ac.thouP a d = none by unfold Ac.thouP; rw [if_neg (fun h => ha h.1)])
    have h8 : (a == [48]) = false := by simpa using (fun e => ha (.inl e))
    have h9 : (a == [49]) = false := by simpa using (fun e => ha (.inr e))
    clear ha
    go_enter Try.func58, Try.ntmps58
    go_wp2_with (first
      | (go_at_call 48; (with_reducible refine Calls.mono h1'.out ?_); rintro e w1 ⟨rfl, hb1⟩; have hb1' := Lib.hid hb1; clear hb1)
      | (go_at_call 25; (with_reducible refine Calls.mono (mustA_no _) ?_); rintro e w3 ⟨rfl, hw3⟩; obtain rfl := hw3.symm))
    exact ⟨rfl, thouR_no hno.out hb1'.out⟩
end Go.Proofs.Ythpohjafnljfhaa

namespace Go.Proofs.Ythpohjafnljfhaa
open Go.RowKit Go.Shelf
attribute [local go_sem] Oper.semAt_some

/-! ## A parameter: its name and value -/
theorem ahead_cases (c : UInt8) (s : List UInt8) : (aheadL c s false = s) ∨ (aheadL c s false).length < s.length := by
  unfold aheadL
  cases h : findL c s false with
  | none => exact .inl rfl
  | some r =>
    have := Ac.sp_find c false s
    rw [h] at this
    have := this.2
    refine .inr ?_
    simp; omega
def paramP (hd : Bool) (n v : List UInt8) : Option (List UInt8 × List UInt8) := if tokenL n = true then (if hd = true then (if tokenL v = true then some (lowerL n, v) else (quotedL v).map fun t => (lowerL n, t)) else some (lowerL n, v)) else none
/-- What a cut tells, and what a parameter is by it. -/
theorem cut_param (s : List UInt8) (w : World) (hs : s.length ≤ 1000000) : ∃ hd n v, n.length ≤ s.length ∧ v.length ≤ s.length ∧ Ac.param s = paramP hd n v ∧
    Calls Try.prog 59 #[.string ⟨s.toArray⟩, .int .u8 61] w fun e w' => e = .returned (.tuple #[.string ⟨n.toArray⟩, .string ⟨v.toArray⟩, .bool hd]) ∧ Below w.heap.size w w' := by
  have l1 := trimL_len (aheadL 61 s false)
  have l2 := trimL_len s
  rcases ahead_cases 61 s with h | h
  · refine ⟨false, trimL s, [], l2, by simp, ?_, ?_⟩
    · rw [Ac.param_eq, h, if_neg (Nat.lt_irrefl _)]
      unfold paramP
      simp
    · exact cut_not s s 61 w hs h rfl
  · have l3 := trimL_len (s.drop ((aheadL 61 s false).length + 1))
    refine ⟨true, trimL (aheadL 61 s false), trimL (s.drop ((aheadL 61 s false).length + 1)), by omega, by simp at l3; omega, ?_, ?_⟩
    · rw [Ac.param_eq, if_pos h]
      unfold paramP
      simp
    · have hc := cut_any s (aheadL 61 s false) 61 w hs rfl h
      unfold CutR at hc
      exact hc
def PairA (o : Option (List UInt8 × List UInt8)) (w : World) (e : Ending) (w' : World) : Prop := (match o with
  | some x => e = .returned (.tuple #[.string ⟨x.1.toArray⟩, .string ⟨x.2.toArray⟩])
  | none => e = gaveEA) ∧ Below w.heap.size w w'
theorem pairA_no {o : Option (List UInt8 × List UInt8)} {w w' : World} (h : o = none) (hb : Below w.heap.size w w') : PairA o w gaveEA w' := by subst h; exact ⟨rfl, hb⟩
theorem pairA_yes {o : Option (List UInt8 × List UInt8)} {n v : List UInt8} {w w' : World} (h : o = some (n, v)) (hb : Below w.heap.size w w') : PairA o w (.returned (.tuple #[.string ⟨n.toArray⟩, .string ⟨v.toArray⟩])) w' := by subst h; exact ⟨rfl, hb⟩
set_option maxRecDepth 100000 in
set_option maxHeartbeats 2000000 in
theorem pair_anyA (s : List UInt8) (w : World) (hs : s.length ≤ 1000000) : Calls Try.prog 52 #[.string ⟨s.toArray⟩] w (PairA (Ac.param s) w) := by
  obtain ⟨hd, n, v, hn, hv, hp, hc⟩ := cut_param s w hs
  rw [hp]
  have h1 := fun W => token_any n W (by omega)
  have h2 := fun W => token_any v W (by omega)
  have h3 := fun W => quoted_any v W (by omega)
  have h4 := fun W => lower_any n W (by omega)
  unfold BoolR at h1 h2
  unfold QuotR at h3
  unfold StrR at h4
  have hc' := Lib.hid hc
  have h4' := Lib.hid h4
  clear hp hc hn hv h4 hs
  cases ht : tokenL n with
  | false =>
    have hno := Lib.hid (show paramP hd n v = none by unfold paramP; rw [ht]; rfl)
    rw [ht] at h1
    have h1' := Lib.hid h1
    clear h1 h2 h3 ht
    go_enter Try.func52, Try.ntmps52
    go_wp2_with (first
      | (go_at_call 59; (with_reducible refine Calls.mono hc'.out ?_); rintro e w1 ⟨rfl, hb1⟩; have hb1' := Lib.hid hb1; clear hb1)
      | (go_at_call 49; (with_reducible refine Calls.mono (h1'.out _) ?_); rintro e w2 ⟨rfl, hb2⟩; have hb2' := Lib.hid (below_on hb1'.out hb2); clear hb2)
      | (go_at_call 25; (with_reducible refine Calls.mono (mustA_no _) ?_); rintro e w3 ⟨rfl, hw3⟩; obtain rfl := hw3.symm))
    exact ⟨rfl, pairA_no hno.out hb2'.out⟩
  | true =>
    rw [ht] at h1
    have h1' := Lib.hid h1
    clear h1
    cases hd with
    | false =>
      have hyes := Lib.hid (show paramP false n v = some (lowerL n, v) by unfold paramP; rw [ht]; rfl)
      clear h2 h3 ht
      generalize lowerL n = ln at *
      go_enter Try.func52, Try.ntmps52
      go_wp2_with (first
        | (go_at_call 59; (with_reducible refine Calls.mono hc'.out ?_); rintro e w1 ⟨rfl, hb1⟩; have hb1' := Lib.hid hb1; clear hb1)
        | (go_at_call 49; (with_reducible refine Calls.mono (h1'.out _) ?_); rintro e w2 ⟨rfl, hb2⟩; have hb2' := Lib.hid (below_on hb1'.out hb2); clear hb2)
        | (go_at_call 25; (with_reducible refine Calls.mono (mustA_yes _) ?_); rintro e w3 ⟨rfl, hw3⟩; obtain rfl := hw3.symm)
        | (go_at_call 50; (with_reducible refine Calls.mono (h4'.out _) ?_); rintro e w4 ⟨rfl, hb4⟩; have hb4' := Lib.hid (below_on hb2'.out hb4); clear hb4))
      go_ret2
      exact pairA_yes hyes.out hb4'.out
    | true =>
      cases hv : tokenL v with
      | true =>
        have hyes := Lib.hid (show paramP true n v = some (lowerL n, v) by unfold paramP; rw [ht, hv]; rfl)
        rw [hv] at h2
        have h2' := Lib.hid h2
        clear h2 h3 ht hv
        generalize lowerL n = ln at *
        go_enter Try.func52, Try.ntmps52
        go_wp2_with (first
          | (go_at_call 59; (with_reducible refine Calls.mono hc'.out ?_); rintro e w1 ⟨rfl, hb1⟩; have hb1' := Lib.hid hb1; clear hb1)
          | (go_at_call 25; (with_reducible refine Calls.mono (mustA_yes _) ?_); rintro e w3 ⟨rfl, hw3⟩; obtain rfl := hw3.symm)
          | (go_at_call 50; (with_reducible refine Calls.mono (h4'.out _) ?_); rintro e w4 ⟨rfl, hb4⟩; have hb4' := Lib.hid (below_on hb5'.out hb4); clear hb4)
          | (have := hb2'.out; go_at_call 49; (with_reducible refine Calls.mono (h2'.out _) ?_); rintro e w5 ⟨rfl, hb5⟩; have hb5' := Lib.hid (below_on hb2'.out hb5); clear hb5 this)
          | (go_at_call 49; (with_reducible refine Calls.mono (h1'.out _) ?_); rintro e w2 ⟨rfl, hb2⟩; have hb2' := Lib.hid (below_on hb1'.out hb2); clear hb2))
        go_ret2
        exact pairA_yes hyes.out hb4'.out
      | false =>
        rw [hv] at h2
        have h2' := Lib.hid h2
        obtain ⟨o, ho⟩ : ∃ o, quotedL v = o := ⟨_, rfl⟩
        rw [ho] at h3
        have h3' := Lib.hid h3
        cases o with
        | none =>
          have hno := Lib.hid (show paramP true n v = none by unfold paramP; rw [ht, hv, ho]; rfl)
          clear h2 h3 ht hv ho
          unfold quoteV at h3'
          go_enter Try.func52, Try.ntmps52
          go_wp2_with (first
            | (go_at_call 59; (with_reducible refine Calls.mono hc'.out ?_); rintro e w1 ⟨rfl, hb1⟩; have hb1' := Lib.hid hb1; clear hb1)
            | (go_at_call 25; (with_reducible refine Calls.mono (mustA_yes _) ?_); rintro e w3 ⟨rfl, hw3⟩; obtain rfl := hw3.symm)
            | (go_at_call 25; (with_reducible refine Calls.mono (mustA_no _) ?_); rintro e w3 ⟨rfl, hw3⟩; obtain rfl := hw3.symm)
            | (go_at_call 60; (with_reducible refine Calls.mono (h3'.out _) ?_); rintro e w4 ⟨rfl, hb4⟩; have hb4' := Lib.hid (below_on hb5'.out hb4); clear hb4)
            | (have := hb2'.out; go_at_call 49; (with_reducible refine Calls.mono (h2'.out _) ?_); rintro e w5 ⟨rfl, hb5⟩; have hb5' := Lib.hid (below_on hb2'.out hb5); clear hb5 this)
            | (go_at_call 49; (with_reducible refine Calls.mono (h1'.out _) ?_); rintro e w2 ⟨rfl, hb2⟩; have hb2' := Lib.hid (below_on hb1'.out hb2); clear hb2))
          exact ⟨rfl, pairA_no hno.out hb4'.out⟩
        | some t =>
          have hyes := Lib.hid (show paramP true n v = some (lowerL n, t) by unfold paramP; rw [ht, hv, ho]; rfl)
          clear h2 h3 ht hv ho
          unfold quoteV at h3'
          generalize lowerL n = ln at *
          go_enter Try.func52, Try.ntmps52
          go_wp2_with (first
            | (go_at_call 59; (with_reducible refine Calls.mono hc'.out ?_); rintro e w1 ⟨rfl, hb1⟩; have hb1' := Lib.hid hb1; clear hb1)
            | (go_at_call 25; (with_reducible refine Calls.mono (mustA_yes _) ?_); rintro e w3 ⟨rfl, hw3⟩; obtain rfl := hw3.symm)
            | (go_at_call 60; (with_reducible refine Calls.mono (h3'.out _) ?_); rintro e w4 ⟨rfl, hb4⟩; have hb4' := Lib.hid (below_on hb5'.out hb4); clear hb4)
            | (go_at_call 50; (with_reducible refine Calls.mono (h4'.out _) ?_); rintro e w6 ⟨rfl, hb6⟩; have hb6' := Lib.hid (below_on hb4'.out hb6); clear hb6)
            | (have := hb2'.out; go_at_call 49; (with_reducible refine Calls.mono (h2'.out _) ?_); rintro e w5 ⟨rfl, hb5⟩; have hb5' := Lib.hid (below_on hb2'.out hb5); clear hb5 this)
            | (go_at_call 49; (with_reducible refine Calls.mono (h1'.out _) ?_); rintro e w2 ⟨rfl, hb2⟩; have hb2' := Lib.hid (below_on hb1'.out hb2); clear hb2))
          go_ret2
          exact pairA_yes hyes.out hb6'.out
end Go.Proofs.Ythpohjafnljfhaa

namespace Go.Proofs.Ythpohjafnljfhaa
open Go.RowKit Go.Shelf
attribute [local go_sem] Oper.semAt_some

/-! ## Parameters are taken in -/
theorem RdR.facts {W : World} {k : Nat} {ty sub : List UInt8} {pa q : Nat} {wd : Bool} (h : RdR W k ty sub pa q wd) : W.cell? ⟨k, 2, none⟩ = some (.int .i64 (pa : Int)) ∧ W.cell? ⟨k, 3, none⟩ = some (.int .i64 (q : Int)) ∧ W.cell? ⟨k, 4, none⟩ = some (.bool wd) ∧ W.frozen? ⟨k, 2, none⟩ = false ∧ W.frozen? ⟨k, 3, none⟩ = false ∧ W.frozen? ⟨k, 4, none⟩ = false :=
  ⟨Has.cell h 2, Has.cell h 3, Has.cell h 4, Has.free h 2, Has.free h 3, Has.free h 4⟩
theorem param_more (k : Nat) (ty sub n v : List UInt8) (pa q : Nat) (w : World) (hk : RdR w k ty sub pa q true) : Calls Try.prog 51 #[.pointer (some ⟨k, 0, none⟩), .string ⟨n.toArray⟩, .string ⟨v.toArray⟩] w fun e w' => e = .returned (.tuple #[]) ∧ w' = w := by
  obtain ⟨-, -, c4, -, -, -⟩ := hk.facts
  clear hk
  go_enter Try.func51, Try.ntmps51
  go_wp2
  go_end0
  exact ⟨rfl, rfl⟩
theorem param_other (k : Nat) (ty sub n v : List UInt8) (pa q : Nat) (w : World) (hpa : pa ≤ 1000000) (hn : n ≠ [113]) (hk : RdR w k ty sub pa q false) : Calls Try.prog 51 #[.pointer (some ⟨k, 0, none⟩), .string ⟨n.toArray⟩, .string ⟨v.toArray⟩] w fun e w' => e = .returned (.tuple #[]) ∧ RdR w' k ty sub (pa + 1) q false ∧ Below k w w' := by
  obtain ⟨c2, -, c4, f2, -, -⟩ := hk.facts
  have hne : (n == [113]) = false := by simpa using hn
  have hp := Lib.hid (Has.put hk 2 (.int .i64 ((pa : Int) + 1)))
  clear hk hn
  go_enter Try.func51, Try.ntmps51
  go_wp2
  go_end0
  refine ⟨rfl, ?_, (Below.refl k w).setCell (p := ⟨k, 2, none⟩) (Nat.le_refl _) _⟩
  have := hp.out
  simpa [RdR] using this
theorem param_bad (k : Nat) (ty sub v : List UInt8) (pa q : Nat) (w : World) (hT : TabA w) (hv : v.length ≤ 1000000) (ht : Ac.thou v = none) (hk : RdR w k ty sub pa q false) : Calls Try.prog 51 #[.pointer (some ⟨k, 0, none⟩), .string ⟨#[113]⟩, .string ⟨v.toArray⟩] w fun e w' => e = gaveEA ∧ Below w.heap.size w w' := by
  obtain ⟨-, -, c4, -, -, -⟩ := hk.facts
  have h1 := thouT_any v w hT hv
  rw [ht] at h1
  unfold ThouR at h1
  simp only at h1
  have h1' := Lib.hid h1
  clear hk h1 hT
  go_enter Try.func51, Try.ntmps51
  go_wp2_with (go_at_call 58; (with_reducible refine Calls.mono h1'.out ?_); rintro e w1 ⟨rfl, hb1⟩; have hb1' := Lib.hid hb1; clear hb1)
  exact ⟨rfl, rfl, hb1'.out⟩
theorem param_q (k : Nat) (ty sub v : List UInt8) (pa q q' : Nat) (w : World) (hT : TabA w) (hv : v.length ≤ 1000000) (ht : Ac.thou v = some q') (hk : RdR w k ty sub pa q false) : Calls Try.prog 51 #[.pointer (some ⟨k, 0, none⟩), .string ⟨#[113]⟩, .string ⟨v.toArray⟩] w fun e w' => e = .returned (.tuple #[]) ∧ RdR w' k ty sub pa q' true ∧ Below k w w' := by
  obtain ⟨-, -, c4, -, -, -⟩ := hk.facts
  have h1 := thouT_any v w hT hv
  rw [ht] at h1
  unfold ThouR at h1
  simp only at h1
  have h1' := Lib.hid h1
  have hk' := Lib.hid hk
  have hkl := Lib.hid (show k ≤ w.heap.size from Nat.le_of_lt (Has.lt hk))
  clear hk h1 hT
  go_enter Try.func51, Try.ntmps51
  go_wp2_with (go_at_call 58; (with_reducible refine Calls.mono h1'.out ?_); rintro e w1 ⟨rfl, hb1⟩; have hb1' := Lib.hid hb1; have k1 := hk'.out.on hb1; have d3 := k1.facts.2.1; have f3 := k1.facts.2.2.2.2.1; have p1 := Has.put k1 3 (.int .i64 (q' : Int)); have d4 := p1.cell 4; have f4 := p1.free 4; have p2 := Lib.hid (p1.put 4 (.bool true)); clear hb1 k1 p1)
  go_end0
  refine ⟨rfl, ?_, ((hb1'.out.mono hkl.out).setCell (p := ⟨k, 3, none⟩) (Nat.le_refl _) _).setCell (p := ⟨k, 4, none⟩) (Nat.le_refl _) _⟩
  have := p2.out
  simpa [RdR] using this
/-- Texts in memory below a block. -/
def TxB (W : World) (B : Nat) (A : Option Addr) (l : List (List UInt8)) : Prop := 0 < l.length → ∃ b o, A = some ⟨b, o, none⟩ ∧ b < B ∧ b < W.heap.size ∧ ∀ (i : Nat) (x : List UInt8), l[i]? = some x → W.cell? ⟨b, o + i, none⟩ = some (.string ⟨x.toArray⟩)
theorem TxB.below {W W' : World} {B : Nat} {A : Option Addr} {l : List (List UInt8)} (h : TxB W B A l) (hb : Below B W W') : TxB W' B A l := fun h0 => by
  obtain ⟨b, o, hA, h1, h2, h3⟩ := h h0
  exact ⟨b, o, hA, h1, Nat.lt_of_lt_of_le h2 hb.size, fun i x hx => (World.cell?_of_block (hb.block b h1)).trans (h3 i x hx)⟩
def ParsR (o : Option (Nat × Nat)) (k : Nat) (ty sub : List UInt8) (w : World) (e : Ending) (w' : World) : Prop := (match o with
  | some x => e = .returned (.tuple #[]) ∧ ∃ wd, RdR w' k ty sub x.1 x.2 wd
  | none => e = gaveEA) ∧ Below k w w'
theorem parsR_no {o : Option (Nat × Nat)} {k : Nat} {ty sub : List UInt8} {w w' : World} (h : o = none) (hb : Below k w w') : ParsR o k ty sub w gaveEA w' := by subst h; exact ⟨rfl, hb⟩
theorem parsR_yes {o : Option (Nat × Nat)} {k pa q : Nat} {wd : Bool} {ty sub : List UInt8} {w w' : World} (h : o = some (pa, q)) (hr : RdR w' k ty sub pa q wd) (hb : Below k w w') : ParsR o k ty sub w (.returned (.tuple #[])) w' := by subst h; exact ⟨⟨rfl, _, hr⟩, hb⟩
theorem quoteT_len : ∀ {s t : List UInt8}, quoteL s = some t → t.length ≤ s.length
  | [], t, h => by simp [quoteL] at h
  | b :: r, t, h => by
    by_cases h34 : b = 34
    · subst h34
      rw [quoteL_end] at h
      split at h
      · injection h with h; subst h; simp
      · cases h
    · by_cases h92 : b = 92
      · subst h92
        cases r with
        | nil => rw [quoteL_esc1] at h; cases h
        | cons d v =>
          rw [quoteL_esc2] at h
          split at h
          · cases hv : quoteL v with
            | none => rw [hv] at h; cases h
            | some u =>
              rw [hv] at h
              injection h with h
              subst h
              have := quoteT_len hv
              simp; omega
          · cases h
      · have e : quoteL (b :: r) = if valB b then (quoteL r).map (b :: ·) else none := by
          conv => lhs; unfold quoteL
          split
          · rename_i e; cases e
          · rename_i e; injection e with e _; exact absurd e h34
          · rename_i e; injection e with e _; exact absurd e h92
          · rename_i e; injection e with e1 e2; subst e1; subst e2; rfl
        rw [e] at h
        split at h
        · cases hv : quoteL r with
          | none => rw [hv] at h; cases h
          | some u =>
            rw [hv] at h
            injection h with h
            subst h
            have := quoteT_len hv
            simp; omega
        · cases h
theorem quoted_len {s t : List UInt8} (h : quotedL s = some t) : t.length ≤ s.length := by
  unfold quotedL at h
  split at h
  · have := quoteT_len h; simp; omega
  · cases h
theorem param_small {s n v : List UInt8} (h : Ac.param s = some (n, v)) : v.length ≤ s.length := by
  rw [Ac.param_eq] at h
  have l3 := trimL_len (s.drop ((aheadL 61 s false).length + 1))
  have l4 : (s.drop ((aheadL 61 s false).length + 1)).length ≤ s.length := by simp
  generalize trimL (s.drop ((aheadL 61 s false).length + 1)) = x at *
  split at h
  · split at h
    · split at h
      · have := Option.some.inj h; injection this with _ e; subst e; omega
      · cases hq : quotedL x with
        | none => rw [hq] at h; cases h
        | some t =>
          rw [hq] at h
          have := Option.some.inj h
          injection this with _ e
          subst e
          have := quoted_len hq
          omega
    · have := Option.some.inj h; injection this with _ e; subst e; simp
  · cases h
set_option maxRecDepth 100000 in
set_option maxHeartbeats 4000000 in
theorem params_any (k : Nat) (ty sub : List UInt8) (A : Option Addr) (c : Nat) (ps : List (List UInt8)) (w : World) (hT : TabA w) (hTk : 1 < k) (hk : RdR w k ty sub 0 1000 false) (hx : TxB w k A ps) (hl : ps.length ≤ 1000000) (hps : ∀ p ∈ ps, p.length ≤ 1000000) :
    Calls Try.prog 36 #[.pointer (some ⟨k, 0, none⟩), .slice A ps.length c] w (ParsR (Ac.parsS 0 1000 false ps) k ty sub w) := by
  have hT' := Lib.hid (fun W (hb : Below k w W) => show TabA W from by
    obtain ⟨m, hm⟩ := hT
    exact ⟨m, (hb.block _ hTk).trans hm⟩)
  have hx' := Lib.hid hx
  have hps' := Lib.hid hps
  have hli : (ps.length : Int) ≤ 1000000 := by omega
  clear hT hx hps
  go_enter Try.func36, Try.ntmps36
  go_wp2
  go_loopw [5, 8] (fun _ x W => ∃ (j pa q : Nat) (wd : Bool), j ≤ ps.length ∧ x = .int .i64 (j : Int) ∧ RdR W k ty sub pa q wd ∧ (wd = false → q = 1000) ∧ Hid (Ac.parsS 0 1000 false ps = Ac.parsS pa q wd (ps.drop j)) ∧ pa ≤ j ∧ Below k w W) (fun _ x _ => ps.length - (intOf x).toNat)
  case atStart => exact ⟨0, 0, 1000, false, Nat.zero_le _, rfl, hk, fun _ => rfl, Lib.hid (by rw [List.drop_zero]), Nat.le_refl _, Below.refl _ _⟩
  case round =>
    obtain ⟨j, pa, q, wd, hj, rfl, hrd, hq0, hgo, hpa, hb⟩ := hrel
    have hb' := Lib.hid hb
    have hrd' := Lib.hid hrd
    have hkr := Lib.hid (show k < wr.heap.size from Has.lt hrd)
    clear hk hrd
    by_cases hlt : j < ps.length
    · have hltI : (j : Int) < (ps.length : Int) := by omega
      obtain ⟨b, o, rfl, hbk, hbl, hcs⟩ := (hx'.out.below hb) (by omega)
      obtain ⟨p, hp⟩ : ∃ p, ps[j] = p := ⟨_, rfl⟩
      have c0 := hcs j p (by rw [List.getElem?_eq_getElem hlt, hp])
      have hpl := hps'.out p (by rw [← hp]; exact List.getElem_mem hlt)
      have hd : ps.drop j = p :: ps.drop (j + 1) := by rw [List.drop_eq_getElem_cons hlt, hp]
      have hgo1 := hgo.out
      rw [hd] at hgo1
      clear hcs hb hgo hd hp
      by_cases hp0 : p = []
      · subst hp0
        rw [Ac.parsS_empty] at hgo1
        have hgo' := Lib.hid hgo1
        clear hgo1
        go_wp2
        exact ⟨⟨j + 1, pa, q, wd, by omega, by go_num, hrd'.out, hq0, hgo', by omega, hb'.out⟩, by simp [intOf]; omega⟩
      · have hne : (p == []) = false := by simpa using hp0
        have hne2 : p.isEmpty = false := by cases p with
          | nil => exact absurd rfl hp0
          | cons a b => rfl
        have hpr := pair_anyA p wr hpl
        obtain ⟨ox, hox⟩ : ∃ ox, Ac.param p = ox := ⟨_, rfl⟩
        rw [hox] at hpr
        unfold PairA at hpr
        cases ox with
        | none =>
          simp only at hpr
          have hpr' := Lib.hid hpr
          have hno := Lib.hid (hgo1.trans (Ac.parsS_none hp0 hox))
          clear hpr hgo1 hox hp0
          go_wp2_with (go_at_call 52; (with_reducible refine Calls.mono hpr'.out ?_); rintro e w2 ⟨rfl, hb2⟩; have hb2' := Lib.hid hb2; clear hb2)
          exact ⟨rfl, parsR_no hno.out (hb'.out.trans (hb2'.out.mono (Nat.le_of_lt hkr.out)))⟩
        | some nv =>
          obtain ⟨n, v⟩ := nv
          simp only at hpr
          have hpr' := Lib.hid hpr
          have hvl := param_small hox
          have hvl2 : v.length ≤ 1000000 := by omega
          clear hpr hvl
          cases wd with
          | true =>
            have hgo' := Lib.hid (hgo1.trans (Ac.parsS_more hp0 hox))
            have h5 := Lib.hid (fun W hW => param_more k ty sub n v pa q W hW)
            clear hgo1 hox hp0
            go_wp2_with (first
              | (go_at_call 52; (with_reducible refine Calls.mono hpr'.out ?_); rintro e w2 ⟨rfl, hb2⟩; have hb2' := Lib.hid hb2; have hk2 := Lib.hid (hrd'.out.on hb2); clear hb2)
              | (go_at_call 51; (with_reducible refine Calls.mono (h5.out _ hk2.out) ?_); rintro e w3 ⟨rfl, hw3⟩; obtain rfl := hw3.symm))
            exact ⟨⟨j + 1, pa, q, true, by omega, by go_num, hk2.out, hq0, hgo', by omega, hb'.out.trans (hb2'.out.mono (Nat.le_of_lt hkr.out))⟩, by simp [intOf]; omega⟩
          | false =>
            by_cases hn : n = [113]
            · subst hn
              obtain ⟨ot, hot⟩ : ∃ ot, Ac.thou v = ot := ⟨_, rfl⟩
              cases ot with
              | none =>
                have hno := Lib.hid (hgo1.trans (Ac.parsS_bad hp0 hox hot))
                have h5 := Lib.hid (fun W hT hW => param_bad k ty sub v pa q W hT hvl2 hot hW)
                clear hgo1 hox hp0 hot
                go_wp2_with (first
                  | (go_at_call 52; (with_reducible refine Calls.mono hpr'.out ?_); rintro e w2 ⟨rfl, hb2⟩; have hb2' := Lib.hid (hb'.out.trans (hb2.mono (Nat.le_of_lt hkr.out))); have hk2 := Lib.hid (hrd'.out.on hb2); clear hb2)
                  | (go_at_call 51; (with_reducible refine Calls.mono (h5.out _ (hT'.out _ hb2'.out) hk2.out) ?_); rintro e w3 ⟨rfl, hb3⟩; have hb3' := Lib.hid hb3; clear hb3))
                exact ⟨rfl, parsR_no hno.out (hb2'.out.trans (hb3'.out.mono (Nat.le_of_lt (Has.lt hk2.out))))⟩
              | some q' =>
                have hgo' := Lib.hid (hgo1.trans (Ac.parsS_q hp0 hox hot))
                have h5 := Lib.hid (fun W hT hW => param_q k ty sub v pa q q' W hT hvl2 hot hW)
                clear hgo1 hox hp0 hot
                go_wp2_with (first
                  | (go_at_call 52; (with_reducible refine Calls.mono hpr'.out ?_); rintro e w2 ⟨rfl, hb2⟩; have hb2' := Lib.hid (hb'.out.trans (hb2.mono (Nat.le_of_lt hkr.out))); have hk2 := Lib.hid (hrd'.out.on hb2); clear hb2)
                  | (go_at_call 51; (with_reducible refine Calls.mono (h5.out _ (hT'.out _ hb2'.out) hk2.out) ?_); rintro e w3 ⟨rfl, hk3, hb3⟩; have hb3' := Lib.hid hb3; have hk3' := Lib.hid hk3; clear hb3 hk3))
                exact ⟨⟨j + 1, pa, q', true, by omega, by go_num, hk3'.out, (fun h => by cases h), hgo', by omega, hb2'.out.trans hb3'.out⟩, by simp [intOf]; omega⟩
            · have hgo' := Lib.hid (hgo1.trans (Ac.parsS_other hp0 hox hn))
              have h5 := Lib.hid (fun W hW => param_other k ty sub n v pa q W (by omega) hn hW)
              have hq1 := hq0 rfl
              clear hgo1 hox hp0 hn
              go_wp2_with (first
                | (go_at_call 52; (with_reducible refine Calls.mono hpr'.out ?_); rintro e w2 ⟨rfl, hb2⟩; have hb2' := Lib.hid (hb'.out.trans (hb2.mono (Nat.le_of_lt hkr.out))); have hk2 := Lib.hid (hrd'.out.on hb2); clear hb2)
                | (go_at_call 51; (with_reducible refine Calls.mono (h5.out _ hk2.out) ?_); rintro e w3 ⟨rfl, hk3, hb3⟩; have hb3' := Lib.hid hb3; have hk3' := Lib.hid hk3; clear hb3 hk3))
              exact ⟨⟨j + 1, pa + 1, q, false, by omega, by go_num, hk3'.out, fun _ => hq1, hgo', by omega, hb2'.out.trans hb3'.out⟩, by simp [intOf]; omega⟩
    · obtain rfl : j = ps.length := by omega
      have hgo1 := hgo.out
      rw [List.drop_length, Ac.parsS_end _ _ _ hq0] at hgo1
      have hgo' := Lib.hid hgo1
      clear hb hgo hgo1
      go_wp2
      go_end0
      exact parsR_yes hgo'.out hrd'.out hb'.out
end Go.Proofs.Ythpohjafnljfhaa
