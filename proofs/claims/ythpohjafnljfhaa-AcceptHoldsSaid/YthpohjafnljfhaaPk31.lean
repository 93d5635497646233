import Derived.Test.YthpohjafnljfhaaPk30
import Derived.Test.YthpohjafnljfhaaPk2
import Derived.Deep.Cut
import Derived.Sort.BigQuietIn
import Derived.BigQuiet
import Derived.Deep.QuietTactic
namespace Go.Proofs.Ythpohjafnljfhaa
open Go.RowKit
attribute [local go_sem] Oper.semAt_some
attribute [local go_sem] wide_fn wide_depth wide_round

/-! ## A text cut in two -/
def CutR (a b : List UInt8) (w : World) (e : Ending) (w' : World) : Prop := e = .returned (.tuple #[.string ⟨a.toArray⟩, .string ⟨b.toArray⟩, .bool true]) ∧ Below w.heap.size w w'
set_option maxRecDepth 100000 in
set_option maxHeartbeats 4000000 in
theorem cut_any (s p : List UInt8) (c : UInt8) (w : World) (hs : s.length ≤ 1000000) (hp : aheadL c s false = p) (hl : p.length < s.length) : Calls Try.prog 59 #[.string ⟨s.toArray⟩, .int .u8 (c.toNat : Int)] w (CutR (trimL p) (trimL (s.drop (p.length + 1))) w) := by
  unfold CutR
  have k0 := Has.new w 9 #[.string ⟨s.toArray⟩]
  have hb0 : Below w.heap.size w (w.alloc (.cells #[.string ⟨s.toArray⟩] 9)) := (Below.refl _ _).alloc (Nat.le_refl _) _
  have k1 := (k0.alloc (.cells #[.string ⟨s.toArray⟩] 9)).alloc (.cells #[.int .u8 (c.toNat : Int)] 5)
  have k2 := (Has.new (w.alloc (.cells #[.string ⟨s.toArray⟩] 9)) 9 #[.string ⟨s.toArray⟩]).alloc (.cells #[.int .u8 (c.toNat : Int)] 5)
  have k3 := Has.new ((w.alloc (.cells #[.string ⟨s.toArray⟩] 9)).alloc (.cells #[.string ⟨s.toArray⟩] 9)) 5 #[.int .u8 (c.toNat : Int)]
  have hb3 := (hb0.alloc (by simp) (.cells #[.string ⟨s.toArray⟩] 9)).alloc (by simp; omega) (.cells #[.int .u8 (c.toNat : Int)] 5)
  simp only [World.size_alloc] at k2 k3
  have z3 : (((w.alloc (.cells #[.string ⟨s.toArray⟩] 9)).alloc (.cells #[.string ⟨s.toArray⟩] 9)).alloc (.cells #[.int .u8 (c.toNat : Int)] 5)).heap.size = w.heap.size + 1 + 1 + 1 := by simp
  have hpa := Lib.hid (parts_any s c (w.alloc (.cells #[.string ⟨s.toArray⟩] 9)))
  simp only [World.size_alloc] at hpa
  refine (callsIn_wide (n := 3)).1 ?_
  refine callsIn_of_wp_marks Try.func59 rfl trivial ?_ rfl
  refine wpIn_wide.2 ?_
  simp only [Try.ntmps59, List.size_toArray, List.length_cons, List.length_nil, Nat.reduceAdd, Nat.reduceSub, Array.replicate_succ, Array.replicate_zero, List.push_toArray, List.append_toArray, List.nil_append, List.cons_append]
  go_wp2
  refine wp_scope_straight ?_
  go_wp2
  go_step3
  go_wp2_with (go_at_call 46; (with_reducible refine Calls.mono hpa.out ?_); rintro e w3 ⟨rfl, hw3⟩; rw [← hw3] at k1 k2 k3 hb3 z3; clear hw3 hpa)
  have z3' := Lib.hid z3
  have hb3' := Lib.hid hb3
  have hp' := Lib.hid hp
  clear k0 hb0 hb3 z3 hp
  refine (wpIn_wide (n := 3)).1 ?_
  refine wpIn_range_first 0 (gf := 54) (lb := #[.pointer (some ⟨w.heap.size + 1, 0, none⟩), .pointer (some ⟨w.heap.size + 1 + 1, 0, none⟩)]) rfl (enters_of Try.func54 (by kernel_rfl) rfl)
    (parts1_first 2 s c hs (w.heap.size + 1) (w.heap.size + 1 + 1) w3 k2 k3) (Below.refl _ _) (fun _ => rfl)
    (fun V => Has V w.heap.size 9 #[.string ⟨s.toArray⟩] ∧ Below w.heap.size w V) (fun V => Has V w.heap.size 9 #[.string ⟨p.toArray⟩] ∧ Below w.heap.size w V)
    (fun X Y h ht => ⟨ht.has h.1 (by have := z3'.out; omega), (ht.down (by have := z3'.out; omega)).on h.2⟩) (fun X Y h ht => ⟨ht.has h.1 (by have := z3'.out; omega), (ht.down (by have := z3'.out; omega)).on h.2⟩)
    ⟨k1, hb3'.out⟩ ?a1 ?assign ?body (fun _ _ h => h) ?rest
  case assign =>
    intro l W K hK
    have hK' := Lib.hid hK
    clear hK
    rw [hp'.out]
    dsimp only [encP]
    gi_wp2
    exact hK'.out
  case body =>
    rintro l W ⟨hh, hb⟩
    have c0 := hh.cell 0
    have f0 := hh.free 0
    have hn := Lib.hid (hh.put 0 (.string ⟨p.toArray⟩))
    have hb' := Lib.hid (hb.setCell (p := ⟨w.heap.size, 0, none⟩) (Nat.le_refl _) (.string ⟨p.toArray⟩))
    clear hh hb
    gi_wp2
    exact ⟨⟨by simp [World.setCell], fun k o hk ho _ => (Below.heap_setCell W ⟨w.heap.size, 0, none⟩ _ k (by show k ≠ w.heap.size; have := z3'.out; omega)).trans ho⟩, by have := hn.out; simpa using this, hb'.out⟩
  case rest =>
    rintro D V hD ⟨hh, hb⟩ hk
    have cV := hh.cell 0
    have c0 := fun (V' : Grown V) => (hh.below V'.below hh.lt).cell 0
    have t1 := Lib.hid (fun (V' : Grown V) => callsIn_wide (n := 3 - 1).2 (grow_call V' (show Calls Try.prog 47 #[.string ⟨p.toArray⟩] V'.v fun e w' => e = .returned (.string ⟨(trimL p).toArray⟩) ∧ Below V'.v.heap.size V'.v w' from trim_any p V'.v (by omega))))
    have t2 := Lib.hid (fun (V' : Grown V) => callsIn_wide (n := 3 - 1).2 (grow_call V' (show Calls Try.prog 47 #[.string ⟨(s.drop (p.length + 1)).toArray⟩] V'.v fun e w' => e = .returned (.string ⟨(trimL (s.drop (p.length + 1))).toArray⟩) ∧ Below V'.v.heap.size V'.v w' from trim_any (s.drop (p.length + 1)) V'.v (by simp; omega))))
    have hne : ((p.length : Int) == (s.length : Int)) = false := by rw [beq_eq_false_iff_ne]; omega
    have hx : (⟨s.toArray⟩ : ByteArray).extract (p.length + 1) s.length = ⟨(s.drop (p.length + 1)).toArray⟩ := by rw [cut_str, List.take_length]
    have hb' := Lib.hid hb
    have hk' := Lib.hid hk
    have hDw : w.heap.size < D := by have := z3'.out; omega
    clear hb hk hh z3' hb3' hp' k1 k2 k3
    obtain ⟨u2, hu2⟩ : ∃ u, trimL (s.drop (p.length + 1)) = u := ⟨_, rfl⟩
    obtain ⟨u1, hu1⟩ : ∃ u, trimL p = u := ⟨_, rfl⟩
    rw [hu2] at t2
    rw [hu1] at t1
    have hu1' := Lib.hid hu1
    have hu2' := Lib.hid hu2
    clear hu1 hu2
    go_upto_region 6 with (fail)
    refine (wpIn_wide (n := 3)).1 ?_
    refine wpIn_region_grow (by kernel_rfl) (by kernel_rfl) (by kernel_rfl) ?_
    iterate 11 (gi_big_quiet_step (first
      | (gi_at_call 47; exact t1.out _)
      | (gi_at_call 47; exact t2.out _)))
    refine wpQuietIn_nil ?_
    intro _ hw'
    obtain ⟨V', hw''⟩ := hw'
    subst hw''
    clear c0
    go_wp2
    rw [Exit.noGoto_ret]
    have hkV := hk'.out.below V'.below hk'.out.lt
    refine ⟨by simp, .inl ⟨_, _, rfl, run_takeDeferred hkV, ?_⟩⟩
    refine ⟨.tuple #[.string ⟨u1.toArray⟩, .string ⟨u2.toArray⟩, .bool true], by simp [results, Try.results59, go_sem], by rw [hu1'.out, hu2'.out], ?_⟩
    exact (hb'.out.trans (V'.below.mono hb'.out.size)).trans ⟨rfl, rfl, rfl, by simp [World.putObj], fun k hk => World.putObj_heap_other (by omega)⟩
end Go.Proofs.Ythpohjafnljfhaa
