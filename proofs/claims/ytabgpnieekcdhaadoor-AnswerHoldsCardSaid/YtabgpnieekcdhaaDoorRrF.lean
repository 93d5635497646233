import Derived.Test.YtabgpnieekcdhaaDoorRrA
import Derived.Test.YtabgpnieekcdhaaDoorRrH
import Derived.Test.YtabgpnieekcdhaaDoorRrB
import Derived.Test.YtabgpnieekcdhaaDoorShelfR
import Derived.Test.YtabgpnieekcdhaaDoorTkG
import Derived.Test.YtabgpnieekcdhaaDoorOw
import Derived.Test.YtabgpnieekcdhaaDoorGr
import Derived.Sort.BigQuietIn
import Derived.BigQuiet
import Derived.Deep.QuietTactic
namespace Go.Proofs.YtabgpnieekcdhaaDoor
open Go.RowKit Go.Shelf
attribute [local go_sem] Oper.semAt_some
attribute [local go_sem] wideF_fn wideF_depth wideF_round

/-! ## head.Check, of a head that may be -/
theorem begins_yes (f : List UInt8) (w : World) (h : Rr.beginsB f = true) : Calls Tryd.prog 64 #[.string ⟨f.toArray⟩] w fun e w' => e = .returned (.bool true) ∧ w' = w := by
  have hp : Lib.hasPrefix f [32] = false := by
    cases f with
    | nil => rfl
    | cons b r =>
      unfold Rr.beginsB at h
      simp at h
      simp [Lib.hasPrefix, List.isPrefixOf]
      exact fun e => h e.symm
  have hne : f.isEmpty = false := by
    cases f with
    | nil => cases h
    | cons b r => rfl
  have hs := Tryd.strings_HasPrefix ⟨f.toArray⟩ ⟨#[32]⟩ w
  rw [show (⟨f.toArray⟩ : ByteArray).data.toList = f from rfl, show (⟨#[32]⟩ : ByteArray).data.toList = [32] from rfl, hp] at hs
  have hs' := Lib.hid hs
  clear hs hp h
  go_enter Tryd.func64, Tryd.ntmps64
  go_wp2_with (go_at_call 73; (with_reducible refine Calls.mono hs'.out ?_); rintro e w2 ⟨rfl, hw2⟩; obtain rfl := hw2.symm)
  go_ret
  exact ⟨rfl, rfl⟩
theorem ofValue_yes (f : List UInt8) (w : World) (hf : f.length ≤ 1000000) (h : Rr.bytesB f = true) : Calls Tryd.prog 65 #[.string ⟨f.toArray⟩] w fun e w' => e = .returned (.bool true) ∧ Below w.heap.size w w' := by
  have h1 := Lib.hid (value_any f w hf)
  have h2 := Lib.hid (fun W => trim_any f W hf)
  have h3 := Lib.hid (fun W => value_any (trimL f) W (Nat.le_trans (trimL_len f) hf))
  unfold BoolR at h1 h3
  unfold StrR at h2
  unfold Rr.bytesB at h
  cases hv : valueL f with
  | true =>
    rw [hv] at h1
    clear h h2 h3 hv
    go_enter Tryd.func65, Tryd.ntmps65
    go_wp2_with (go_at_call 67; (with_reducible refine Calls.mono h1.out ?_); rintro e w2 ⟨rfl, hb2⟩; have hb2' := Lib.hid hb2; clear hb2)
    go_ret
    exact ⟨rfl, hb2'.out⟩
  | false =>
    rw [hv] at h h1
    have hv2 : valueL (trimL f) = true := by simpa using h
    rw [hv2] at h3
    clear h hv hv2
    generalize trimL f = t at *
    go_enter Tryd.func65, Tryd.ntmps65
    go_wp2_with (first
      | (go_at_call 67; (with_reducible refine Calls.mono h1.out ?_); rintro e w2 ⟨rfl, hb2⟩; have hb2' := Lib.hid hb2; clear hb2)
      | (go_at_call 74; (with_reducible refine Calls.mono (h2.out _) ?_); rintro e w3 ⟨rfl, hb3⟩; have hb3' := Lib.hid (below_on hb2'.out hb3); clear hb3)
      | (go_at_call 67; (with_reducible refine Calls.mono (h3.out _) ?_); rintro e w4 ⟨rfl, hb4⟩; have hb4' := Lib.hid (below_on hb3'.out hb4); clear hb4))
    go_ret
    exact ⟨rfl, hb4'.out⟩
set_option maxRecDepth 100000 in
set_option maxHeartbeats 8000000 in
theorem mustBe_yes (f : List UInt8) (A : Option Addr) (c : Nat) (l : List PairL) (w : World) (hf : f.length ≤ 1000000) (hl : l.length ≤ 1000) (hq : ∀ q ∈ l, q.1.length ≤ 100000 ∧ q.2.length ≤ 100000) (hx : Prs w A l) (hh : Rr.headB f l = true) :
    Calls Tryd.prog 56 #[.agg #[.string ⟨f.toArray⟩, .slice A l.length c]] w fun e w' => e = .returned (.tuple #[]) ∧ Below w.heap.size w w' := by
  unfold Rr.headB at hh
  rw [Bool.and_eq_true, Bool.and_eq_true] at hh
  obtain ⟨⟨hh1, hh2⟩, hh3⟩ := hh
  obtain ⟨n, hn⟩ : ∃ n, w.heap.size = n := ⟨_, rfl⟩
  obtain ⟨w1, hw1⟩ : ∃ w1, w.alloc (.cells #[.string ⟨f.toArray⟩, .slice A l.length c] 53) = w1 := ⟨_, rfl⟩
  have hB1 : Below w.heap.size w w1 := by rw [← hw1]; exact (Below.refl _ _).alloc (Nat.le_refl _) _
  have z0 : Has w1 n 53 #[.string ⟨f.toArray⟩, .slice A l.length c] := by rw [← hw1, ← hn]; exact Has.new _ _ _
  have c0 := z0.cell 0
  have hb := Lib.hid (begins_yes f w1 hh1)
  have ho := Lib.hid (ofValue_yes f w1 hf hh2)
  have hm := Lib.hid (fun W => mustH_yes 2 W)
  have z0' := Lib.hid z0
  have hB1' := Lib.hid hB1
  have hx1 := Lib.hid (hx.below hB1)
  have hq' := Lib.hid hq
  have hh3' := Lib.hid hh3
  have hli : (l.length : Int) ≤ 1000 := by omega
  clear hB1 z0 hx hq hh1 hh2 hh3
  go_enter Tryd.func56, Tryd.ntmps56
  go_upto_region 2 with (first
    | (go_at_call 64; (with_reducible refine Calls.mono hb.out ?_); rintro e w7 ⟨rfl, hw7⟩; obtain rfl := hw7.symm)
    | (go_at_call 65; (with_reducible refine Calls.mono ho.out ?_); rintro e w2 ⟨rfl, hb2⟩; have c1 := (z0'.out.below hb2 z0'.out.lt).cell 1; have hb2' := Lib.hid (below_on hB1'.out hb2); have hx2 := Lib.hid (hx1.out.below hb2); clear hb2)
    | (go_at_call 63; (with_reducible refine Calls.mono (hm.out _) ?_); rintro e w8 ⟨rfl, hw8⟩; obtain rfl := hw8.symm))
  go_wp2
  go_loopw [3, 16] (fun _ x W => ∃ k : Nat, k ≤ l.length ∧ x = .int .i64 (k : Int) ∧ Below w2.heap.size w2 W) (fun _ x _ => l.length - (intOf x).toNat)
  case atStart => exact ⟨0, Nat.zero_le _, rfl, Below.refl _ _⟩
  case round =>
    obtain ⟨k, hk, rfl, hbr⟩ := hrel
    by_cases hlt : k < l.length
    · have hltI : (k : Int) < (l.length : Int) := by omega
      obtain ⟨b, o, rfl, hbl, hcs⟩ := (hx2.out.below hbr) (by omega)
      obtain ⟨q, hqk⟩ : ∃ q, l[k] = q := ⟨_, rfl⟩
      obtain ⟨d0, d1⟩ := hcs k q (by rw [List.getElem?_eq_getElem hlt, hqk])
      have hql := hq'.out q (by rw [← hqk]; exact List.getElem_mem hlt)
      have hfb : Rr.fieldB q = true := List.all_eq_true.1 hh3'.out q (by rw [← hqk]; exact List.getElem_mem hlt)
      unfold Rr.fieldB at hfb
      rw [Bool.and_eq_true, Bool.and_eq_true] at hfb
      obtain ⟨⟨ht, hlo⟩, hv⟩ := hfb
      have hlo : lowerL q.1 = q.1 := beq_iff_eq.1 hlo
      clear hcs hqk
      obtain ⟨q1, q2⟩ := q
      simp only at d0 d1 hql ht hlo hv
      have hnw := Has.new wr 69 #[.string ⟨q1.toArray⟩, .string ⟨q2.toArray⟩]
      have hbw := (Below.refl wr.heap.size wr).alloc (Nat.le_refl _) (.cells #[.string ⟨q1.toArray⟩, .string ⟨q2.toArray⟩] 69)
      obtain ⟨w4, hw4⟩ : ∃ w4, wr.alloc (.cells #[.string ⟨q1.toArray⟩, .string ⟨q2.toArray⟩] 69) = w4 := ⟨_, rfl⟩
      rw [hw4] at hnw hbw
      have x0 := fun (V' : Grown w4) => (hnw.below V'.below hnw.lt).cell 0
      have x1 := fun (V' : Grown w4) => (hnw.below V'.below hnw.lt).cell 1
      have t1 := Lib.hid (fun (V' : Grown w4) => callsIn_wide (n := 5 - 1).2 (grow_call V' (show Calls Tryd.prog 66 #[.string ⟨q1.toArray⟩] V'.v fun e w' => e = .returned (.bool true) ∧ Below V'.v.heap.size V'.v w' from by rw [← ht]; exact token_any q1 V'.v (by omega))))
      have t2 := Lib.hid (fun (V' : Grown w4) => callsIn_wide (n := 5 - 1).2 (grow_call V' (show Calls Tryd.prog 31 #[.string ⟨q1.toArray⟩] V'.v fun e w' => e = .returned (.string ⟨q1.toArray⟩) ∧ Below V'.v.heap.size V'.v w' from by have := lower_any q1 V'.v (by omega); rw [hlo] at this; exact this)))
      have t3 := Lib.hid (fun (V' : Grown w4) => callsIn_wide (n := 5 - 1).2 (grow_call V' (show Calls Tryd.prog 67 #[.string ⟨q2.toArray⟩] V'.v fun e w' => e = .returned (.bool true) ∧ Below V'.v.heap.size V'.v w' from by rw [← hv]; exact value_any q2 V'.v (by omega))))
      have t4 := Lib.hid (fun (V' : Grown w4) => callsIn_wide (n := 5 - 1).2 (grow_call V' ((hm.out V'.v).mono (fun e w' ⟨h1, h2⟩ => (⟨h1, by rw [h2]; exact Below.refl _ _⟩ : e = .returned (.tuple #[]) ∧ Below V'.v.heap.size V'.v w')))))
      have hbw' := Lib.hid hbw
      have hbr' := Lib.hid hbr
      have hw4' := Lib.hid hw4
      clear hnw hbw hbr hw4 ht hlo hv
      go_upto_region 5 with (fail)
      rw [hw4'.out]
      refine (wpIn_wide (n := 5)).1 ?_
      refine wpIn_region_grow (by kernel_rfl) (by kernel_rfl) (by kernel_rfl) ?_
      try dsimp only
      iterate 17 (gi_big_quiet_step (first
        | (gi_at_call 66; exact t1.out _)
        | (gi_at_call 31; exact t2.out _)
        | (gi_at_call 67; exact t3.out _)
        | (gi_at_call 63; exact t4.out _)))
      refine wpQuietIn_nil ?_
      intro _ hw'
      obtain ⟨V', hw''⟩ := hw'
      subst hw''
      have hbV := Lib.hid V'.below
      go_wp2
      exact ⟨⟨k + 1, by omega, by go_num, below_on (below_on hbr'.out hbw'.out) hbV.out⟩, by simp [intOf]; omega⟩
    · obtain rfl : k = l.length := by omega
      have hbr' := Lib.hid hbr
      clear hbr
      go_wp2
      go_end0
      exact ⟨rfl, below_on hb2'.out hbr'.out⟩
set_option maxRecDepth 100000 in
theorem check_yes (f : List UInt8) (A : Option Addr) (c : Nat) (l : List PairL) (w : World) (hf : f.length ≤ 1000000) (hl : l.length ≤ 1000) (hq : ∀ q ∈ l, q.1.length ≤ 100000 ∧ q.2.length ≤ 100000) (hx : Prs w A l) (hh : Rr.headB f l = true) :
    Calls Tryd.prog 47 #[.agg #[.string ⟨f.toArray⟩, .slice A l.length c]] w fun e w' => e = .returned (.int .i64 0) ∧ Below w.heap.size w w' := by
  obtain ⟨n, hn⟩ : ∃ n, w.heap.size = n := ⟨_, rfl⟩
  obtain ⟨w1, hw1⟩ : ∃ w1, w.alloc (.cells #[.string ⟨f.toArray⟩, .slice A l.length c] 53) = w1 := ⟨_, rfl⟩
  have hB1 : Below w.heap.size w w1 := by rw [← hw1]; exact (Below.refl _ _).alloc (Nat.le_refl _) _
  have z0 : Has w1 n 53 #[.string ⟨f.toArray⟩, .slice A l.length c] := by rw [← hw1, ← hn]; exact Has.new _ _ _
  have hz1 : w1.heap.size = n + 1 := by rw [← hw1, World.size_alloc, hn]
  have hB2 : Below w1.heap.size w1 (w1.alloc (.cells #[.int .i64 0] 23)) := (Below.refl _ _).alloc (Nat.le_refl _) _
  have he2 := Has.new w1 23 #[.int .i64 0]
  have z02 := z0.below hB2 z0.lt
  have k0 := z02.cell 0
  have k1 := z02.cell 1
  have hen := enters_of (P := Tryd.prog) Tryd.func55 (by kernel_rfl) rfl
  have hmf : ∀ (fn : Fn) (first cap : Array Value) (w : World), (Instr.makeFunc fn first cap).run Tryd.prog w = .ok (.func fn first cap) w := fun _ _ _ _ => rfl
  have hmb := Lib.hid (mustBe_yes f A c l (w1.alloc (.cells #[.int .i64 0] 23)) hf hl hq ((hx.below hB1).below hB2) hh)
  have hc1 : Calls Tryd.prog 55 #[.pointer (some ⟨n, 0, none⟩)] (w1.alloc (.cells #[.int .i64 0] 23)) fun e w' => e = .returned (.tuple #[]) ∧ Below w1.heap.size w1 w' ∧ Has w' w1.heap.size 23 #[.int .i64 0] := by
    have hB2' := Lib.hid hB2
    have he2' := Lib.hid he2
    clear hB1 hB2 he2 z0 z02 hx
    go_enter Tryd.func55, Tryd.ntmps55
    go_wp2_with (go_at_call 56; (with_reducible refine Calls.mono hmb.out ?_); rintro e w3 ⟨rfl, hb3⟩; have hb3' := Lib.hid hb3; clear hb3)
    go_end0
    exact ⟨rfl, below_on hB2'.out hb3'.out, he2'.out.below hb3'.out he2'.out.lt⟩
  have ht := Lib.hid (triedH_yes 55 #[.pointer (some ⟨n, 0, none⟩)] w1 (fun X => Below w1.heap.size w1 X) hen (fun X u h => h.setCell (p := ⟨w1.heap.size, 0, none⟩) (Nat.le_refl _) u) hc1)
  have hB1' := Lib.hid hB1
  clear hB1 hB2 he2 z0 z02 k0 k1 hen hmb hc1 hx
  go_enter Tryd.func47, Tryd.ntmps47
  go_wp2_with (go_at_call 54; (with_reducible refine Calls.mono ht.out ?_); rintro e w3 ⟨rfl, hb3⟩; have hb3' := Lib.hid hb3; clear hb3)
  go_ret
  exact ⟨rfl, below_on hB1'.out hb3'.out⟩
end Go.Proofs.YtabgpnieekcdhaaDoor
