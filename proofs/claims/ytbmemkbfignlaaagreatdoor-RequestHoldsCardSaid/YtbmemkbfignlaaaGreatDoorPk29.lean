import Derived.Test.YtbmemkbfignlaaaGreatDoorPk28
import Derived.Test.YtbmemkbfignlaaaGreatDoorPk25
import Derived.Test.YtbmemkbfignlaaaGreatDoorPk27
import Derived.Test.YtbmemkbfignlaaaGreatDoorPk1
import Derived.Test.YtbmemkbfignlaaaGreatDoorPk2
import Derived.Defers
import Derived.Recover
import Derived.Laws.Pointers
import Derived.Laws.RangeAny
namespace Go.Proofs.YtbmemkbfignlaaaGreatDoor
open Go.RowKit
attribute [local go_sem] Oper.semAt_some
attribute [local go_sem] wide_fn wide_depth wide_round

/-! ## A text that is not cut -/
set_option maxRecDepth 100000 in
set_option maxHeartbeats 4000000 in
theorem cut_not (s p : List UInt8) (c : UInt8) (w : World) (hs : s.length ≤ 1000000) (hp : aheadL c s false = p) (hl : p.length = s.length) : Calls Tryz.prog 231 #[.string ⟨s.toArray⟩, .int .u8 (c.toNat : Int)] w fun e w' => e = .returned (.tuple #[.string ⟨(trimL s).toArray⟩, .string ⟨#[]⟩, .bool false]) ∧ Below w.heap.size w w' := by
  have k0 := Has.new w 9 #[.string ⟨s.toArray⟩]
  have hb0 : Below w.heap.size w (w.alloc (.cells #[.string ⟨s.toArray⟩] 9)) := (Below.refl _ _).alloc (Nat.le_refl _) _
  have k1 := (k0.alloc (.cells #[.string ⟨s.toArray⟩] 9)).alloc (.cells #[.int .u8 (c.toNat : Int)] 5)
  have k2 := (Has.new (w.alloc (.cells #[.string ⟨s.toArray⟩] 9)) 9 #[.string ⟨s.toArray⟩]).alloc (.cells #[.int .u8 (c.toNat : Int)] 5)
  have k3 := Has.new ((w.alloc (.cells #[.string ⟨s.toArray⟩] 9)).alloc (.cells #[.string ⟨s.toArray⟩] 9)) 5 #[.int .u8 (c.toNat : Int)]
  have hb3 := (hb0.alloc (by simp) (.cells #[.string ⟨s.toArray⟩] 9)).alloc (by simp; omega) (.cells #[.int .u8 (c.toNat : Int)] 5)
  simp only [World.size_alloc] at k2 k3
  have z3 : (((w.alloc (.cells #[.string ⟨s.toArray⟩] 9)).alloc (.cells #[.string ⟨s.toArray⟩] 9)).alloc (.cells #[.int .u8 (c.toNat : Int)] 5)).heap.size = w.heap.size + 1 + 1 + 1 := by simp
  have hpa := Lib.hid (parts_any s c (w.alloc (.cells #[.string ⟨s.toArray⟩] 9)))
  simp only [World.size_alloc] at hpa
  refine (callsIn_wide (n := 3)).1 ?_
  refine callsIn_of_wp_marks Tryz.func231 rfl trivial ?_ rfl
  refine wpIn_wide.2 ?_
  simp only [Tryz.ntmps231, List.size_toArray, List.length_cons, List.length_nil, Nat.reduceAdd, Nat.reduceSub, Array.replicate_succ, Array.replicate_zero, List.push_toArray, List.append_toArray, List.nil_append, List.cons_append]
  go_wp2
  refine wp_scope_on 1 rfl ?_
  go_wp2
  go_step3
  go_wp2_with (go_at_call 223; (with_reducible refine Calls.mono hpa.out ?_); rintro e w3 ⟨rfl, hw3⟩; rw [← hw3] at k1 k2 k3 hb3 z3; clear hw3 hpa)
  have z3' := Lib.hid z3
  have hb3' := Lib.hid hb3
  have hp' := Lib.hid hp
  clear k0 hb0 hb3 z3 hp
  refine (wpIn_wide (n := 3)).1 ?_
  refine wpIn_range_first 0 (gf := 228) (lb := #[.pointer (some ⟨w.heap.size + 1, 0, none⟩), .pointer (some ⟨w.heap.size + 1 + 1, 0, none⟩)]) rfl (enters_of Tryz.func228 (by kernel_rfl) rfl)
    (parts1_first 2 s c hs (w.heap.size + 1) (w.heap.size + 1 + 1) w3 k2 k3) (Below.refl _ _) (fun _ => rfl)
    (fun V => Has V w.heap.size 9 #[.string ⟨s.toArray⟩] ∧ Below w.heap.size w V) (fun V => Has V w.heap.size 9 #[.string ⟨p.toArray⟩] ∧ Below w.heap.size w V)
    (fun X Y h ht => ⟨ht.has h.1 (by have := z3'.out; omega), (ht.down (by have := z3'.out; omega)).on h.2⟩) (fun X Y h ht => ⟨ht.has h.1 (by have := z3'.out; omega), (ht.down (by have := z3'.out; omega)).on h.2⟩)
    ⟨k1, hb3'.out⟩ ?a1 ?assign ?body (fun _ _ h => h) ?rest
  case assign =>
    intro l W K hK
    have hK' := Lib.hid hK
    clear hK
    rw [hp'.out]
    dsimp only [encP]
    gi_wp2
    exact hK'.out
  case body =>
    rintro l W ⟨hh, hb⟩
    have c0 := hh.cell 0
    have f0 := hh.free 0
    have hn := Lib.hid (hh.put 0 (.string ⟨p.toArray⟩))
    have hb' := Lib.hid (hb.setCell (p := ⟨w.heap.size, 0, none⟩) (Nat.le_refl _) (.string ⟨p.toArray⟩))
    clear hh hb
    gi_wp2
    exact ⟨⟨by simp [World.setCell], fun k o hk ho _ => (Below.heap_setCell W ⟨w.heap.size, 0, none⟩ _ k (by show k ≠ w.heap.size; have := z3'.out; omega)).trans ho⟩, by have := hn.out; simpa using this, hb'.out⟩
  case rest =>
    rintro D V hD ⟨hh, hb⟩ hk
    have cV := hh.cell 0
    have t1 := Lib.hid (trim_any s V hs)
    unfold StrR at t1
    have hne : ((p.length : Int) == (s.length : Int)) = true := by rw [beq_iff_eq]; omega
    have hb' := Lib.hid hb
    have hk' := Lib.hid hk
    have hDw : w.heap.size < D := by have := z3'.out; omega
    clear hb hk hh z3' hb3' hp' k1 k2 k3
    go_wp2
    go_step3
    refine ⟨rfl, ?_⟩
    go_wp2_with (go_at_call 139; (with_reducible refine Calls.mono t1.out ?_); rintro e V2 ⟨rfl, hb2⟩; have hb2' := Lib.hid hb2; clear hb2)
    rw [Exit.noGoto_ret]
    have hkV := hk'.out.below hb2'.out hk'.out.lt
    refine ⟨by simp, .inl ⟨_, _, rfl, run_takeDeferred hkV, ?_⟩⟩
    refine ⟨.tuple #[.string ⟨(trimL s).toArray⟩, .string ⟨#[]⟩, .bool false], by simp [results, Tryz.results231, go_sem], rfl, ?_⟩
    exact (hb'.out.trans (hb2'.out.mono hb'.out.size)).trans ⟨rfl, rfl, rfl, by simp [World.putObj], fun k hk => World.putObj_heap_other (by omega)⟩
end Go.Proofs.YtbmemkbfignlaaaGreatDoor

namespace Go.Proofs.YtbmemkbfignlaaaGreatDoor
open Go.RowKit
attribute [local go_sem] Oper.semAt_some

/-! ## Ranges in memory; what the laws take of the program -/
/-- What the program's own tables hold. -/
def TabA (W : World) : Prop := ∃ m, Has W 0 3 #[.int .i64 m]
theorem TabA.below {W W' : World} (h : TabA W) (hb : Below W.heap.size W W') : TabA W' := by
  obtain ⟨m, hm⟩ := h
  exact ⟨m, hm.below hb hm.lt⟩
def rgC (r : Ac.Rg) : List Value := [.string ⟨r.ty.toArray⟩, .string ⟨r.sub.toArray⟩, .int .i64 (r.params : Int), .int .i64 (r.quality : Int)]
/-- Ranges from an address on. -/
def Rgs (W : World) (A : Option Addr) (l : List Ac.Rg) : Prop := 0 < l.length → ∃ b o, A = some ⟨b, o, none⟩ ∧ b < W.heap.size ∧ ∀ (i : Nat) (r : Ac.Rg), l[i]? = some r →
  W.cell? ⟨b, o + i * 4, none⟩ = some (.string ⟨r.ty.toArray⟩) ∧ W.cell? ⟨b, o + i * 4 + 1, none⟩ = some (.string ⟨r.sub.toArray⟩) ∧ W.cell? ⟨b, o + i * 4 + 2, none⟩ = some (.int .i64 (r.params : Int)) ∧ W.cell? ⟨b, o + i * 4 + 3, none⟩ = some (.int .i64 (r.quality : Int))
theorem Rgs.below {w W : World} {A : Option Addr} {l : List Ac.Rg} (h : Rgs w A l) (hb : Below w.heap.size w W) : Rgs W A l := fun h0 => by
  obtain ⟨b, o, rfl, hlt, hc⟩ := h h0
  have k : ∀ p : Addr, p.block = b → W.cell? p = w.cell? p := fun p hp => World.cell?_of_block (hb.block _ (hp ▸ hlt))
  refine ⟨b, o, rfl, Nat.lt_of_lt_of_le hlt hb.size, fun i x hx => ?_⟩
  obtain ⟨h1, h2, h3, h4⟩ := hc i x hx
  exact ⟨(k _ rfl).trans h1, (k _ rfl).trans h2, (k _ rfl).trans h3, (k _ rfl).trans h4⟩
def orA (o : Option (List Ac.Rg)) : List Ac.Rg := o.getD []
def errA {α : Type} (o : Option α) : Int := if o.isSome then 0 else 220
def RgsR (o : Option (List Ac.Rg)) (w : World) (e : Ending) (w' : World) : Prop := (∃ A c, e = .returned (.tuple #[.slice A (orA o).length c, .int .i64 (errA o)]) ∧ Rgs w' A (orA o)) ∧ Below w.heap.size w w'
end Go.Proofs.YtbmemkbfignlaaaGreatDoor

namespace Go.Proofs.YtbmemkbfignlaaaGreatDoor
open Go.RowKit Go.Shelf
attribute [local go_sem] Oper.semAt_some

/-! ## What is wrong is given up by; type and subtype -/
def gaveVA : Value := .iface 232 (.agg #[.int .i64 220])
def gaveDA : List PanicEntry := [{ v := gaveVA, recovered := false }]
abbrev gaveEA : Ending := .panicked gaveDA
theorem mustA_yes (w : World) : Calls Tryz.prog 202 #[.bool true] w fun e w' => e = .returned (.tuple #[]) ∧ w' = w := by
  go_enter Tryz.func202, Tryz.ntmps202
  go_wp2
  go_end0
  exact ⟨rfl, rfl⟩
theorem mustA_no (w : World) : Calls Tryz.prog 202 #[.bool false] w fun e w' => e = gaveEA ∧ w' = w := by
  go_enter Tryz.func202, Tryz.ntmps202
  go_wp2
  exact ⟨rfl, rfl, rfl⟩
theorem cutA_any (k : UInt8) (s : List UInt8) (w : World) (hs : s.length ≤ 1000000) (hM : TabA w) : ∃ f, Calls Tryz.prog 64 #[.string ⟨s.toArray⟩, .string ⟨#[k]⟩] w fun e w' =>
    e = .returned (.tuple #[.string ⟨(Ac.tw k s).toArray⟩, .string ⟨(Ac.bh k s).toArray⟩, .bool f]) ∧ Below w.heap.size w w' := by
  obtain ⟨m, hm⟩ := hM
  have hc := Tryz.strings_Cut ⟨s.toArray⟩ ⟨#[k]⟩ m w (by show s.length < _; omega) (hm.cell 0)
  rw [show (⟨s.toArray⟩ : ByteArray).data.toList = s from rfl, show (⟨#[k]⟩ : ByteArray).data.toList = [k] from rfl, (Ac.cut_tw k s).1, (Ac.cut_tw k s).2] at hc
  exact ⟨_, hc.mono fun e w' ⟨he, n, hw⟩ => ⟨he, by rw [hw]; exact below_draws (Below.refl _ _) n⟩⟩
def namesP (a b : List UInt8) : Option (List UInt8 × List UInt8) := if tokenL a = true ∧ tokenL b = true ∧ ¬ (a = [42] ∧ b ≠ [42]) then some (lowerL a, lowerL b) else none
theorem names_P (s : List UInt8) : Ac.names s = namesP (Ac.tw 47 s) (Ac.bh 47 s) := by
  rw [Ac.names_eq]
  rfl
theorem namesP_no {a b : List UInt8} (h1 : tokenL a = true) (h2 : tokenL b = true) (h : namesP a b = none) : a = [42] ∧ b ≠ [42] := by
  unfold namesP at h
  split at h
  · cases h
  · rename_i hn
    rcases Classical.em (a = [42] ∧ b ≠ [42]) with h | h
    · exact h
    · exact absurd ⟨h1, h2, h⟩ hn
theorem namesP_yes {a b : List UInt8} {x : List UInt8 × List UInt8} (h : namesP a b = some x) : tokenL a = true ∧ tokenL b = true ∧ ¬ (a = [42] ∧ b ≠ [42]) ∧ x = (lowerL a, lowerL b) := by
  unfold namesP at h
  split at h
  · rename_i hn
    exact ⟨hn.1, hn.2.1, hn.2.2, (Option.some.inj h).symm⟩
  · cases h
/-- A range that is read. -/
def RdR (W : World) (k : Nat) (ty sub : List UInt8) (pa q : Nat) (wd : Bool) : Prop := Has W k 244 #[.string ⟨ty.toArray⟩, .string ⟨sub.toArray⟩, .int .i64 (pa : Int), .int .i64 (q : Int), .bool wd]
theorem RdR.on {w W : World} {k : Nat} {ty sub : List UInt8} {pa q : Nat} {wd : Bool} (h : RdR w k ty sub pa q wd) (hb : Below w.heap.size w W) : RdR W k ty sub pa q wd := Has.below h hb (Has.lt h)
def NamesR (o : Option (List UInt8 × List UInt8)) (k pa q : Nat) (wd : Bool) (w : World) (e : Ending) (w' : World) : Prop := (match o with
  | some x => e = .returned (.tuple #[]) ∧ RdR w' k x.1 x.2 pa q wd
  | none => e = gaveEA) ∧ Below k w w'
set_option maxRecDepth 100000 in
set_option maxHeartbeats 2000000 in
theorem names_no (s : List UInt8) (k pa q : Nat) (wd : Bool) (w : World) (hT : TabA w) (hs : s.length ≤ 1000000) (hk : RdR w k [] [] pa q wd) (hn : Ac.names s = none) : Calls Tryz.prog 215 #[.pointer (some ⟨k, 0, none⟩), .string ⟨s.toArray⟩] w (NamesR none k pa q wd w) := by
  unfold NamesR
  obtain ⟨f, h1⟩ := cutA_any 47 s w hs hT
  rw [names_P] at hn
  have l1 := Ac.tw_len 47 s
  have l2 := Ac.bh_len 47 s
  have hkl := Lib.hid (show k ≤ w.heap.size from Nat.le_of_lt (Has.lt hk))
  generalize Ac.tw 47 s = a at *
  generalize Ac.bh 47 s = b at *
  have h2 := fun W => token_any a W (by omega)
  have h3 := fun W => token_any b W (by omega)
  unfold BoolR at h2 h3
  clear l1 l2 hk hT
  cases ha : tokenL a with
  | false =>
    rw [ha] at h2
    have h1' := Lib.hid h1
    have h2' := Lib.hid h2
    clear h1 h2 h3 hn ha
    go_enter Tryz.func215, Tryz.ntmps215
    go_wp2_with (first
      | (go_at_call 64; (with_reducible refine Calls.mono h1'.out ?_); rintro e w1 ⟨rfl, hb1⟩; have hb1' := Lib.hid hb1; clear hb1)
      | (go_at_call 111; (with_reducible refine Calls.mono (h2'.out _) ?_); rintro e w2 ⟨rfl, hb2⟩; have hb2' := Lib.hid hb2; clear hb2)
      | (go_at_call 202; (with_reducible refine Calls.mono (mustA_no _) ?_); rintro e w3 ⟨rfl, hw3⟩; obtain rfl := hw3.symm))
    exact ⟨rfl, rfl, (below_on hb1'.out hb2'.out).mono hkl.out⟩
  | true =>
    rw [ha] at h2
    cases hb : tokenL b with
    | false =>
      rw [hb] at h3
      have h1' := Lib.hid h1
      have h2' := Lib.hid h2
      have h3' := Lib.hid h3
      clear h1 h2 h3 hn ha hb
      go_enter Tryz.func215, Tryz.ntmps215
      go_wp2_with (first
        | (go_at_call 64; (with_reducible refine Calls.mono h1'.out ?_); rintro e w1 ⟨rfl, hb1⟩; have hb1' := Lib.hid hb1; clear hb1)
        | (go_at_call 111; (with_reducible refine Calls.mono (h2'.out _) ?_); rintro e w2 ⟨rfl, hb2⟩; have hb2' := Lib.hid hb2; clear hb2)
        | (go_at_call 111; (with_reducible refine Calls.mono (h3'.out _) ?_); rintro e w4 ⟨rfl, hb4⟩; have hb4' := Lib.hid hb4; clear hb4)
        | (go_at_call 202; (with_reducible refine Calls.mono (mustA_no _) ?_); rintro e w3 ⟨rfl, hw3⟩; obtain rfl := hw3.symm))
      exact ⟨rfl, rfl, (below_on (below_on hb1'.out hb2'.out) hb4'.out).mono hkl.out⟩
    | true =>
      rw [hb] at h3
      obtain ⟨rfl, hbs⟩ := namesP_no ha hb hn
      have hbe : (b == [42]) = false := by simpa using hbs
      have h1' := Lib.hid h1
      have h2' := Lib.hid h2
      have h3' := Lib.hid h3
      clear h1 h2 h3 hn ha hb hbs
      go_enter Tryz.func215, Tryz.ntmps215
      go_wp2_with (first
        | (go_at_call 64; (with_reducible refine Calls.mono h1'.out ?_); rintro e w1 ⟨rfl, hb1⟩; have hb1' := Lib.hid hb1; clear hb1)
        | (go_at_call 111; (with_reducible refine Calls.mono (h2'.out _) ?_); rintro e w2 ⟨rfl, hb2⟩; have hb2' := Lib.hid hb2; clear hb2)
        | (go_at_call 111; (with_reducible refine Calls.mono (h3'.out _) ?_); rintro e w4 ⟨rfl, hb4⟩; have hb4' := Lib.hid hb4; clear hb4)
        | (go_at_call 202; (with_reducible refine Calls.mono (mustA_yes _) ?_); rintro e w3 ⟨rfl, hw3⟩; obtain rfl := hw3.symm)
        | (go_at_call 202; (with_reducible refine Calls.mono (mustA_no _) ?_); rintro e w3 ⟨rfl, hw3⟩; obtain rfl := hw3.symm))
      exact ⟨rfl, rfl, (below_on (below_on hb1'.out hb2'.out) hb4'.out).mono hkl.out⟩
set_option maxRecDepth 100000 in
set_option maxHeartbeats 2000000 in
theorem names_yes (s : List UInt8) (k pa q : Nat) (wd : Bool) (w : World) (hT : TabA w) (hs : s.length ≤ 1000000) (hk : RdR w k [] [] pa q wd) (x : List UInt8 × List UInt8) (hn : Ac.names s = some x) : Calls Tryz.prog 215 #[.pointer (some ⟨k, 0, none⟩), .string ⟨s.toArray⟩] w (NamesR (some x) k pa q wd w) := by
  unfold NamesR
  obtain ⟨f, h1⟩ := cutA_any 47 s w hs hT
  rw [names_P] at hn
  have l1 := Ac.tw_len 47 s
  have l2 := Ac.bh_len 47 s
  have hkl := Lib.hid (show k ≤ w.heap.size from Nat.le_of_lt (Has.lt hk))
  generalize Ac.tw 47 s = a at *
  generalize Ac.bh 47 s = b at *
  have h2 := fun W => token_any a W (by omega)
  have h3 := fun W => token_any b W (by omega)
  have h4 := fun W => lower_any a W (by omega)
  have h5 := fun W => lower_any b W (by omega)
  unfold BoolR at h2 h3
  unfold StrR at h4 h5
  obtain ⟨ha, hb, hst, rfl⟩ := namesP_yes hn
  rw [ha] at h2
  rw [hb] at h3
  have hor : ((a == [42]) = false) ∨ ((a == [42]) = true ∧ (b == [42]) = true) := by
    by_cases h : a = [42]
    · refine .inr ⟨by simpa using h, ?_⟩
      rcases Classical.em (b = [42]) with h' | h'
      · simpa using h'
      · exact absurd ⟨h, h'⟩ hst
    · exact .inl (by simpa using h)
  have h1' := Lib.hid h1
  have h2' := Lib.hid h2
  have h3' := Lib.hid h3
  generalize lowerL a = la at *
  generalize lowerL b = lb at *
  have h4' := Lib.hid h4
  have h5' := Lib.hid h5
  have hk' := Lib.hid hk
  clear h1 h2 h3 h4 h5 hn ha hb hst l1 l2 hT hk
  rcases hor with hae | ⟨hae, hbe⟩
  all_goals
    go_enter Tryz.func215, Tryz.ntmps215
    go_wp2_with (first
      | (go_at_call 64; (with_reducible refine Calls.mono h1'.out ?_); rintro e w1 ⟨rfl, hb1⟩; have hb1' := Lib.hid hb1; clear hb1)
      | (go_at_call 111; (with_reducible refine Calls.mono (h2'.out _) ?_); rintro e w2 ⟨rfl, hb2⟩; have hb2' := Lib.hid (below_on hb1'.out hb2); clear hb2)
      | (go_at_call 111; (with_reducible refine Calls.mono (h3'.out _) ?_); rintro e w4 ⟨rfl, hb4⟩; have hb4' := Lib.hid (below_on hb2'.out hb4); clear hb4)
      | (go_at_call 202; (with_reducible refine Calls.mono (mustA_yes _) ?_); rintro e w3 ⟨rfl, hw3⟩; obtain rfl := hw3.symm)
      | (go_at_call 112; (with_reducible refine Calls.mono (h4'.out _) ?_); rintro e w5 ⟨rfl, hb5⟩; have hb5' := Lib.hid (below_on hb4'.out hb5); clear hb5)
      | (go_at_call 112; (with_reducible refine Calls.mono (h5'.out _) ?_); rintro e w6 ⟨rfl, hb6⟩; have hb6' := Lib.hid (below_on hb5'.out hb6); have k6 := hk'.out.on (below_on hb5'.out hb6); have c0 := k6.cell 0; have f0 := k6.free 0; have p6 := k6.put 0 (.string ⟨la.toArray⟩); have c1 := p6.cell 1; have f1 := p6.free 1; have p7 := Lib.hid (p6.put 1 (.string ⟨lb.toArray⟩)); clear hb6 k6 p6))
    go_end0
    refine ⟨⟨rfl, ?_⟩, ((hb6'.out.mono hkl.out).setCell (p := ⟨k, 0, none⟩) (Nat.le_refl _) _).setCell (p := ⟨k, 1, none⟩) (Nat.le_refl _) _⟩
    have := p7.out
    simpa [RdR] using this
end Go.Proofs.YtbmemkbfignlaaaGreatDoor

namespace Go.Proofs.YtbmemkbfignlaaaGreatDoor
open Go.RowKit Go.Shelf
attribute [local go_sem] Oper.semAt_some app_str

/-! ## Thousandths -/
def ThouR (o : Option Nat) (w : World) (e : Ending) (w' : World) : Prop := (match o with
  | some n => e = .returned (.int .i64 (n : Int))
  | none => e = gaveEA) ∧ Below w.heap.size w w'
theorem thouR_no {o : Option Nat} {w w' : World} (h : o = none) (hb : Below w.heap.size w w') : ThouR o w gaveEA w' := by subst h; exact ⟨rfl, hb⟩
theorem thouR_yes {o : Option Nat} {n : Nat} {w w' : World} (h : o = some n) (hb : Below w.heap.size w w') : ThouR o w (.returned (.int .i64 (n : Int))) w' := by subst h; exact ⟨rfl, hb⟩
theorem sumT_at {u : List UInt8} {pos wt x : Nat} (h : pos < u.length) (hx : x + Ac.sumT wt (u.drop pos) = Ac.sumT 1000 u) : x + wt * (u[pos].toNat - 48) + Ac.sumT (wt / 10) (u.drop (pos + 1)) = Ac.sumT 1000 u := by
  have e : Ac.sumT wt (u[pos] :: u.drop (pos + 1)) = wt * (u[pos].toNat - 48) + Ac.sumT (wt / 10) (u.drop (pos + 1)) := rfl
  rw [List.drop_eq_getElem_cons h, e] at hx
  omega
theorem take_dig {u : List UInt8} {pos : Nat} (h : pos < u.length) (ht : ∀ b ∈ u.take pos, Ac.dig b = true) (hd : Ac.dig u[pos] = true) : ∀ b ∈ u.take (pos + 1), Ac.dig b = true := fun b hb => by
  rw [List.take_succ_eq_append_getElem h] at hb
  rcases List.mem_append.1 hb with hb | hb
  · exact ht b hb
  · rw [List.mem_singleton.1 hb]; exact hd
/-- What stands at a place: a digit, or a point that is none. -/
theorem point_at (u : List UInt8) {pos : Nat} (h : pos < u.length) : (Ac.dig u[pos] = true ∧ Utf8.decode ⟨u.toArray⟩ pos = (u[pos].toNat, 1) ∧ 48 ≤ u[pos].toNat ∧ u[pos].toNat ≤ 57) ∨ (Ac.dig u[pos] = false ∧ ((Utf8.decode ⟨u.toArray⟩ pos).1 < 48 ∨ 57 < (Utf8.decode ⟨u.toArray⟩ pos).1)) := by
  have e : ∀ b : UInt8, Ac.dig b = true ↔ 48 ≤ b.toNat ∧ b.toNat ≤ 57 := fun b => by
    unfold Ac.dig
    rw [Bool.and_eq_true, decide_eq_true_iff, decide_eq_true_iff, UInt8.le_iff_toNat_le, UInt8.le_iff_toNat_le]
    exact Iff.rfl
  have hb : (⟨u.toArray⟩ : ByteArray)[pos]'h = u[pos] := rfl
  by_cases hh : u[pos].toNat < 128
  · have hd : Utf8.decode ⟨u.toArray⟩ pos = (u[pos].toNat, 1) := decode_ascii ⟨u.toArray⟩ pos h hh
    cases hg : Ac.dig u[pos] with
    | true => exact .inl ⟨rfl, hd, ((e _).1 hg).1, ((e _).1 hg).2⟩
    | false =>
      refine .inr ⟨rfl, ?_⟩
      rw [hd]
      have : ¬ (48 ≤ u[pos].toNat ∧ u[pos].toNat ≤ 57) := fun h' => by rw [(e _).2 h'] at hg; cases hg
      show u[pos].toNat < 48 ∨ 57 < u[pos].toNat
      omega
  · have := (decode_high ⟨u.toArray⟩ pos h (by rw [hb]; omega)).1
    refine .inr ⟨?_, .inr (by omega)⟩
    cases hg : Ac.dig u[pos] with
    | true => have := (e _).1 hg; omega
    | false => rfl
theorem thouP_dig {a d : List UInt8} {b : UInt8} (h : b ∈ a ++ d) (hd : Ac.dig b = false) : Ac.thouP a d = none := by
  unfold Ac.thouP
  rw [if_neg (fun h' => by rw [h'.2.2.1 b h] at hd; cases hd)]
theorem thouP_all {a d u : List UInt8} (hu : a ++ d = u) (ha : a = [48] ∨ a = [49]) (hd : d.length ≤ 3) (hg : ∀ b ∈ u, Ac.dig b = true) (hx : Ac.sumT 1000 u ≤ 1000) : Ac.thouP a d = some (Ac.sumT 1000 u) := by
  subst hu
  unfold Ac.thouP
  rw [if_pos ⟨ha, hd, hg, hx⟩]
theorem thouP_much {a d u : List UInt8} (hu : a ++ d = u) (hx : 1000 < Ac.sumT 1000 u) : Ac.thouP a d = none := by
  subst hu
  unfold Ac.thouP
  rw [if_neg (fun h => by omega)]
set_option maxRecDepth 100000 in
set_option maxHeartbeats 4000000 in
theorem thouT_any (s : List UInt8) (w : World) (hT : TabA w) (hs : s.length ≤ 1000000) : Calls Tryz.prog 230 #[.string ⟨s.toArray⟩] w (ThouR (Ac.thou s) w) := by
  rw [Ac.thou_eq]
  obtain ⟨f, h1⟩ := cutA_any 46 s w hs hT
  have l2 := Ac.bh_len 46 s
  generalize Ac.tw 46 s = a at *
  generalize Ac.bh 46 s = d at *
  have h1' := Lib.hid h1
  have hdI : (d.length : Int) ≤ 1000000 := by omega
  clear h1 hT
  by_cases ha : a = [48] ∨ a = [49]
  · by_cases hd3 : d.length ≤ 3
    · have hd3I : (d.length : Int) ≤ 3 := by omega
      obtain ⟨u, hu⟩ : ∃ u, a ++ d = u := ⟨_, rfl⟩
      have hul : u.length ≤ 4 := by rw [← hu]; rcases ha with rfl | rfl <;> (simp; omega)
      have hu' := Lib.hid hu
      clear hu
      rcases ha with rfl | rfl
      all_goals
        have hu2 := hu'.out
        go_enter Tryz.func230, Tryz.ntmps230
        go_wp2_with (first
          | (go_at_call 64; (with_reducible refine Calls.mono h1'.out ?_); rintro e w1 ⟨rfl, hb1⟩; have hb1' := Lib.hid hb1; clear hb1)
          | (go_at_call 202; (with_reducible refine Calls.mono (mustA_yes _) ?_); rintro e w3 ⟨rfl, hw3⟩; obtain rfl := hw3.symm))
        obtain ⟨g, hg⟩ : ∃ g, w1.heap.size = g := ⟨_, rfl⟩
        have hb1g : Below g w1 w1 := Below.refl _ _
        rw [hg]
        go_loopw [6, 7, 9] (fun x6 x7 _ W => ∃ pos x wt : Nat, pos ≤ u.length ∧ x6 = .int .i64 (x : Int) ∧ x7 = .int .i64 (wt : Int) ∧ W.heap[g]? = some (.stringIter ⟨u.toArray⟩ pos) ∧ Hid (x + Ac.sumT wt (u.drop pos) = Ac.sumT 1000 u) ∧ Hid (∀ b ∈ u.take pos, Ac.dig b = true) ∧ x ≤ 9000 * pos ∧ Hid (pos = 0 ∧ wt = 1000 ∨ pos = 1 ∧ wt = 100 ∨ pos = 2 ∧ wt = 10 ∨ pos = 3 ∧ wt = 1 ∨ pos = 4 ∧ wt = 0) ∧ Below g w1 W) (fun _ _ _ W => u.length - W.iterPos g)
        case atStart => exact ⟨0, 0, 1000, Nat.zero_le _, rfl, rfl, by rw [← hg]; exact World.iter_heap _ _ _, Lib.hid (by rw [List.drop_zero, Nat.zero_add]), Lib.hid (by simp), Nat.le_refl _, Lib.hid (.inl ⟨rfl, rfl⟩), hb1g.alloc (by omega) _⟩
        case round =>
          obtain ⟨pos, x, wt, hpos, rfl, rfl, hit, hsum, hdig, hx, hwt, hb⟩ := hrel
          have hip : wr.iterPos g = pos := by unfold World.iterPos; rw [hit]
          by_cases hlt : pos < u.length
          · have hnx : ∀ ty, (Instr.next (.pointer (some ⟨g, 0, none⟩)) true ty).run Tryz.prog wr = _ := fun ty => Lib.run_next_any_at wr g ⟨u.toArray⟩ pos ty hit hlt
            have hbW2 : Below g w1 (wr.iterAt g ⟨u.toArray⟩ (pos + (Utf8.decode ⟨u.toArray⟩ pos).2)) := Lib.below_iterAt hb (by omega) _ _
            have hit2 : (wr.iterAt g ⟨u.toArray⟩ (pos + (Utf8.decode ⟨u.toArray⟩ pos).2)).heap[g]? = some (.stringIter ⟨u.toArray⟩ (pos + (Utf8.decode ⟨u.toArray⟩ pos).2)) := Lib.iterAt_heap wr g ⟨u.toArray⟩ pos _ hit
            rcases point_at u hlt with ⟨hd, hde, k1, k2⟩ | ⟨hd, hor⟩
            · rw [hde] at hnx hbW2 hit2
              simp only at hnx hbW2 hit2
              obtain ⟨W1, hW1⟩ : ∃ W1, wr.iterAt g ⟨u.toArray⟩ (pos + 1) = W1 := ⟨_, rfl⟩
              rw [hW1] at hnx hbW2 hit2
              have hit' := Lib.hid hit2
              have hb' := Lib.hid hbW2
              have hip' := Lib.hid hip
              have hs2 := Lib.hid (sumT_at hlt hsum.out)
              have hd2 := Lib.hid (take_dig hlt hdig.out hd)
              clear hW1 hit2 hbW2 hit hip hsum hdig hd hde hb
              have k1I : (48 : Int) ≤ (u[pos].toNat : Int) := by omega
              have k2I : (u[pos].toNat : Int) ≤ 57 := by omega
              generalize u[pos].toNat = c at *
              have hwt' := hwt.out
              clear hwt
              rcases hwt' with ⟨rfl, rfl⟩ | ⟨rfl, rfl⟩ | ⟨rfl, rfl⟩ | ⟨rfl, rfl⟩ | ⟨rfl, rfl⟩
              all_goals
                first
                | (exfalso; omega)
                | (go_wp2_with (go_at_call 202; (with_reducible refine Calls.mono (mustA_yes _) ?_); rintro e w3 ⟨rfl, hw3⟩; obtain rfl := hw3.symm)
                   refine ⟨⟨_, x + _ * (c - 48), _, by omega, ?_, rfl, hit'.out, hs2, hd2, by omega, Lib.hid (by simp), hb'.out⟩, by rw [hip'.out]; unfold World.iterPos; rw [hit'.out]; simp; omega⟩
                   congr 1
                   omega)
            · have hno := Lib.hid (thouP_dig (a := _) (d := d) (b := u[pos]) (by rw [hu'.out]; exact List.getElem_mem hlt) hd)
              generalize (Utf8.decode ⟨u.toArray⟩ pos).2 = n at *
              generalize (Utf8.decode ⟨u.toArray⟩ pos).1 = r at *
              obtain ⟨W1, hW1⟩ : ∃ W1, wr.iterAt g ⟨u.toArray⟩ (pos + n) = W1 := ⟨_, rfl⟩
              rw [hW1] at hnx hbW2 hit2
              have hb' := Lib.hid hbW2
              clear hW1 hit2 hbW2 hit hip hsum hdig hd hb hwt
              by_cases hr : r < 48
              · have hrI : ¬ (48 : Int) ≤ (r : Int) := by omega
                clear hor hr
                go_wp2_with (go_at_call 202; (with_reducible refine Calls.mono (mustA_no _) ?_); rintro e w3 ⟨rfl, hw3⟩; obtain rfl := hw3.symm)
                exact ⟨rfl, thouR_no hno.out (hb1'.out.trans (hb'.out.mono (by have := hb1'.out.size; omega)))⟩
              · have hrI : (48 : Int) ≤ (r : Int) := by omega
                have hrJ : ¬ (r : Int) ≤ 57 := by omega
                clear hor hr
                go_wp2_with (go_at_call 202; (with_reducible refine Calls.mono (mustA_no _) ?_); rintro e w3 ⟨rfl, hw3⟩; obtain rfl := hw3.symm)
                exact ⟨rfl, thouR_no hno.out (hb1'.out.trans (hb'.out.mono (by have := hb1'.out.size; omega)))⟩
          · obtain rfl : pos = u.length := by omega
            have hnx : ∀ ty, (Instr.next (.pointer (some ⟨g, 0, none⟩)) true ty).run Tryz.prog wr = _ := fun ty => Lib.run_next_end_at wr g ⟨u.toArray⟩ u.length ty hit (by show ¬ _ < u.toArray.size; simp)
            have hs1 := hsum.out
            have hd1 := hdig.out
            rw [List.drop_length] at hs1
            rw [List.take_length] at hd1
            have hxs : x = Ac.sumT 1000 u := by simpa [Ac.sumT] using hs1
            have hb' := Lib.hid hb
            by_cases hx1 : x ≤ 1000
            · have hyes := Lib.hid (thouP_all (hu'.out) (by first | exact .inl rfl | exact .inr rfl) hd3 hd1 (by omega))
              have hx1I : (x : Int) ≤ 1000 := by omega
              have hxs' := Lib.hid hxs
              clear hb hit hip hs1 hd1 hsum hdig hxs hwt
              go_wp2_with (go_at_call 202; (with_reducible refine Calls.mono (mustA_yes _) ?_); rintro e w3 ⟨rfl, hw3⟩; obtain rfl := hw3.symm)
              go_ret
              refine thouR_yes (hyes.out.trans (by rw [hxs'.out])) (hb1'.out.trans (hb'.out.mono (by have := hb1'.out.size; omega)))
            · have hno := Lib.hid (thouP_much (hu'.out) (by omega))
              have hx1I : ¬ (x : Int) ≤ 1000 := by omega
              clear hb hit hip hs1 hd1 hsum hdig hxs hwt
              go_wp2_with (go_at_call 202; (with_reducible refine Calls.mono (mustA_no _) ?_); rintro e w3 ⟨rfl, hw3⟩; obtain rfl := hw3.symm)
              exact ⟨rfl, thouR_no hno.out (hb1'.out.trans (hb'.out.mono (by have := hb1'.out.size; omega)))⟩
    · have hno := Lib.hid (show Ac.thouP a d = none by unfold Ac.thouP; rw [if_neg (fun h => hd3 h.2.1)])
      have hd3I : decide ((d.length : Int) ≤ 3) = false := decide_eq_false (by omega)
      clear hd3
      rcases ha with rfl | rfl
      all_goals
        go_enter Tryz.func230, Tryz.ntmps230
        go_wp2_with (first
          | (go_at_call 64; (with_reducible refine Calls.mono h1'.out ?_); rintro e w1 ⟨rfl, hb1⟩; have hb1' := Lib.hid hb1; clear hb1)
          | (go_at_call 202; (with_reducible refine Calls.mono (mustA_yes _) ?_); rintro e w3 ⟨rfl, hw3⟩; obtain rfl := hw3.symm)
          | (go_at_call 202; (with_reducible refine Calls.mono (mustA_no _) ?_); rintro e w3 ⟨rfl, hw3⟩; obtain rfl := hw3.symm))
        exact ⟨rfl, thouR_no hno.out hb1'.out⟩
  · have hno := Lib.hid (show Ac.thouP a d = none by unfold Ac.thouP; rw [if_neg (fun h => ha h.1)])
    have h8 : (a == [48]) = false := by simpa using (fun e => ha (.inl e))
    have h9 : (a == [49]) = false := by simpa using (fun e => ha (.inr e))
    clear ha
    go_enter Tryz.func230, Tryz.ntmps230
    go_wp2_with (first
      | (go_at_call 64; (with_reducible refine Calls.mono h1'.out ?_); rintro e w1 ⟨rfl, hb1⟩; have hb1' := Lib.hid hb1; clear hb1)
      | (go_at_call 202; (with_reducible refine Calls.mono (mustA_no _) ?_); rintro e w3 ⟨rfl, hw3⟩; obtain rfl := hw3.symm))
    exact ⟨rfl, thouR_no hno.out hb1'.out⟩
end Go.Proofs.YtbmemkbfignlaaaGreatDoor
