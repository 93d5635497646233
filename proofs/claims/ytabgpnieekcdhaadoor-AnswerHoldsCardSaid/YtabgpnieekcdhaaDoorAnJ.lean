import Derived.Test.YtabgpnieekcdhaaDoorAnA
import Derived.Test.YtabgpnieekcdhaaDoorRrB
import Derived.Test.YtabgpnieekcdhaaDoorTkG
import Derived.Deep.Cut
import Derived.BigQuiet
namespace Go.Proofs.YtabgpnieekcdhaaDoor
open Go.RowKit
attribute [local go_sem] Oper.semAt_some

/-! ## The document's answers: statuses, reasons; a head's bytes -/
def numsA : Array Value := #[.int .i64 200, .int .i64 400, .int .i64 404, .int .i64 405, .int .i64 406, .int .i64 431, .int .i64 503, .int .i64 505]
def resA : Array Value := #[.string ⟨#[79, 75]⟩, .string ⟨#[66, 97, 100, 32, 82, 101, 113, 117, 101, 115, 116]⟩, .string ⟨#[78, 111, 116, 32, 70, 111, 117, 110, 100]⟩, .string ⟨#[77, 101, 116, 104, 111, 100, 32, 78, 111, 116, 32, 65, 108, 108, 111, 119, 101, 100]⟩, .string ⟨#[78, 111, 116, 32, 65, 99, 99, 101, 112, 116, 97, 98, 108, 101]⟩, .string ⟨#[82, 101, 113, 117, 101, 115, 116, 32, 72, 101, 97, 100, 101, 114, 32, 70, 105, 101, 108, 100, 115, 32, 84, 111, 111, 32, 76, 97, 114, 103, 101]⟩, .string ⟨#[83, 101, 114, 118, 105, 99, 101, 32, 85, 110, 97, 118, 97, 105, 108, 97, 98, 108, 101]⟩, .string ⟨#[72, 84, 84, 80, 32, 86, 101, 114, 115, 105, 111, 110, 32, 78, 111, 116, 32, 83, 117, 112, 112, 111, 114, 116, 101, 100]⟩]
theorem numsA_at {k : Nat} (h : k < 8) : numsA[k]? = some (.int .i64 ((An.stat k).1 : Int)) := by
  rcases (by omega : k = 0 ∨ k = 1 ∨ k = 2 ∨ k = 3 ∨ k = 4 ∨ k = 5 ∨ k = 6 ∨ k = 7) with rfl | rfl | rfl | rfl | rfl | rfl | rfl | rfl <;> rfl
theorem resA_at {k : Nat} (h : k < 8) : resA[k]? = some (.string ⟨(An.stat k).2.toArray⟩) := by
  rcases (by omega : k = 0 ∨ k = 1 ∨ k = 2 ∨ k = 3 ∨ k = 4 ∨ k = 5 ∨ k = 6 ∨ k = 7) with rfl | rfl | rfl | rfl | rfl | rfl | rfl | rfl <;> rfl
theorem refStatuses_any (w : World) : Calls Tryd.prog 19 #[] w fun e w' => e = .returned (.slice (some ⟨w.heap.size, 0, none⟩) 8 8) ∧ Has w' w.heap.size 3 numsA ∧ Below w.heap.size w w' := by
  go_enter Tryd.func19, Tryd.ntmps19
  go_wp2
  go_ret
  exact ⟨rfl, Has.new _ _ _, (Below.refl _ _).alloc (Nat.le_refl _) _⟩
theorem refReasons_any (w : World) : Calls Tryd.prog 20 #[] w fun e w' => e = .returned (.slice (some ⟨w.heap.size, 0, none⟩) 8 8) ∧ Has w' w.heap.size 9 resA ∧ Below w.heap.size w w' := by
  go_enter Tryd.func20, Tryd.ntmps20
  go_wp2
  go_ret
  exact ⟨rfl, Has.new _ _ _, (Below.refl _ _).alloc (Nat.le_refl _) _⟩
def reasonV : Option (List UInt8) → Value
  | some r => .tuple #[.string ⟨r.toArray⟩, .int .i64 0]
  | none => .tuple #[.string ⟨#[]⟩, .int .i64 2]
set_option maxRecDepth 100000 in
set_option maxHeartbeats 8000000 in
theorem refReason_any (s : Int) (w : World) : Calls Tryd.prog 11 #[.int .i64 s] w fun e w' => e = .returned (reasonV (An.reason s)) ∧ Below w.heap.size w w' := by
  have hst := Lib.hid (refStatuses_any w)
  have hrs := Lib.hid (fun W => refReasons_any W)
  go_enter Tryd.func11, Tryd.ntmps11
  go_wp2_with (go_at_call 19; (with_reducible refine Calls.mono hst.out ?_); rintro e w2 ⟨rfl, hz2, hb2⟩; have hz2' := Lib.hid hz2; have hb2' := Lib.hid hb2; clear hz2 hb2)
  go_loopw [5] (fun x W => ∃ k : Nat, k ≤ 8 ∧ x = .int .i64 (k : Int) ∧ Hid (∀ j, j < k → ¬ ((An.stat j).1 : Int) = s) ∧ Below w2.heap.size w2 W) (fun x _ => 8 - (intOf x).toNat)
  case atStart => exact ⟨0, Nat.zero_le _, rfl, Lib.hid (fun j h => by omega), Below.refl _ _⟩
  case round =>
    obtain ⟨k, hk, rfl, hno, hbr⟩ := hrel
    have hbr' := Lib.hid hbr
    by_cases hlt : k < 8
    · have hltI : (k : Int) < 8 := by omega
      have c0 : wr.cell? ⟨w.heap.size, k, none⟩ = some (.int .i64 ((An.stat k).1 : Int)) := ((hz2'.out.below hbr hz2'.out.lt).cell k).trans (numsA_at hlt)
      have hrk := Lib.hid (resA_at hlt)
      by_cases he : ((An.stat k).1 : Int) = s
      · have hr : Hid (An.reason s = some (An.stat k).2) := Lib.hid (by rw [← he]; exact An.reason_at hlt)
        generalize (An.stat k).2 = sr at *
        generalize (An.stat k).1 = sn at *
        subst he
        clear hbr
        go_wp2_with (go_at_call 20; (with_reducible refine Calls.mono (hrs.out _) ?_); rintro e w4 ⟨rfl, hz4, hb4⟩; have d0 : w4.cell? ⟨wr.heap.size, k, none⟩ = some (.string ⟨sr.toArray⟩) := (hz4.cell k).trans hrk.out; have hb4' := Lib.hid hb4; clear hz4 hb4)
        go_ret2
        rw [hr.out]
        exact ⟨rfl, below_on (below_on hb2'.out hbr'.out) hb4'.out⟩
      · have hn1 : Hid (∀ j, j < k + 1 → ¬ ((An.stat j).1 : Int) = s) := Lib.hid (fun j hj => by
          rcases Nat.lt_or_ge j k with h | h
          · exact hno.out j h
          · obtain rfl : j = k := by omega
            exact he)
        generalize (An.stat k).2 = sr at *
        generalize (An.stat k).1 = sn at *
        clear hbr hno
        go_wp2
        exact ⟨⟨k + 1, by omega, by go_num, hn1, hbr'.out⟩, by simp [intOf]; omega⟩
    · obtain rfl : k = 8 := by omega
      have hr : Hid (An.reason s = none) := Lib.hid (An.reason_none (fun j hj => hno.out j hj))
      clear hbr hno
      go_wp2
      go_ret2
      rw [hr.out]
      exact ⟨rfl, below_on hb2'.out hbr'.out⟩
set_option maxRecDepth 100000 in
set_option maxHeartbeats 8000000 in
theorem refBytes_any (f : List UInt8) (A : Option Addr) (c : Nat) (l : List PairL) (w : World) (hf : f.length ≤ 10000) (hl : l.length ≤ 100) (hq : ∀ q ∈ l, q.1.length ≤ 10000 ∧ q.2.length ≤ 10000) (hx : Prs w A l) :
    Calls Tryd.prog 32 #[.agg #[.string ⟨f.toArray⟩, .slice A l.length c]] w (StrR (An.headT f l) w) := by
  unfold StrR
  obtain ⟨n, hn⟩ : ∃ n, w.heap.size = n := ⟨_, rfl⟩
  obtain ⟨w1, hw1⟩ : ∃ w1, w.alloc (.cells #[.string ⟨f.toArray⟩, .slice A l.length c] 53) = w1 := ⟨_, rfl⟩
  have hB1 : Below w.heap.size w w1 := by rw [← hw1]; exact (Below.refl _ _).alloc (Nat.le_refl _) _
  have z0 : Has w1 n 53 #[.string ⟨f.toArray⟩, .slice A l.length c] := by rw [← hw1, ← hn]; exact Has.new _ _ _
  have c0 := z0.cell 0
  have hz0' := Lib.hid z0
  have hB1' := Lib.hid hB1
  have hx1 := Lib.hid (hx.below hB1)
  have hq' := Lib.hid hq
  have hli : (l.length : Int) ≤ 100 := by omega
  have hfl : Hid (f.length ≤ 10000) := Lib.hid hf
  have hst : Hid ((⟨f.toArray⟩ : ByteArray) ++ ⟨#[13, 10]⟩ = ⟨(f ++ An.crlf ++ (l.take 0).flatMap An.fieldT).toArray⟩) := Lib.hid (by
    rw [show (⟨#[13, 10]⟩ : ByteArray) = ⟨An.crlf.toArray⟩ from rfl, app_str]
    simp)
  have hcat0 : ¬ 9223372036854775807 < f.length + 2 := by omega
  clear hB1 z0 hx hq
  go_enter Tryd.func32, Tryd.ntmps32
  go_wp2
  clear c0
  go_loopw [3, 4] (fun s x W => ∃ k : Nat, k ≤ l.length ∧ x = .int .i64 (k : Int) ∧ s = .string ⟨(f ++ An.crlf ++ (l.take k).flatMap An.fieldT).toArray⟩ ∧ Hid (Below w1.heap.size w1 W)) (fun _ x _ => l.length - (intOf x).toNat)
  case atStart => exact ⟨0, Nat.zero_le _, rfl, by rw [hst.out], Lib.hid (Below.refl _ _)⟩
  case round =>
    obtain ⟨k, hk, rfl, rfl, hbr⟩ := hrel
    have c1 := (hz0'.out.below hbr.out hz0'.out.lt).cell 1
    by_cases hlt : k < l.length
    · have hltI : (k : Int) < (l.length : Int) := by omega
      obtain ⟨b, o, hA, hbl, hcs⟩ := (hx1.out.below hbr.out) (by omega)
      subst hA
      obtain ⟨q, hqk⟩ : ∃ q, l[k] = q := ⟨_, rfl⟩
      obtain ⟨d0, d1⟩ := hcs k q (by rw [List.getElem?_eq_getElem hlt, hqk])
      have hql := hq'.out q (by rw [← hqk]; exact List.getElem_mem hlt)
      have hnx : Hid (f ++ An.crlf ++ (l.take (k + 1)).flatMap An.fieldT = f ++ An.crlf ++ (l.take k).flatMap An.fieldT ++ q.1 ++ [58, 32] ++ q.2 ++ [13, 10]) := Lib.hid (by rw [List.take_succ_eq_append_getElem hlt, hqk]; simp [An.fieldT])
      have hsm : (f ++ An.crlf ++ (l.take k).flatMap An.fieldT).length ≤ 10002 + 100 * 20004 := by
        have h1 := An.flat_len (m := 20004) (l := l.take k) (fun x hx => by have := hq'.out x (List.mem_of_mem_take hx); rw [An.fieldT_len]; omega)
        have h2 : (l.take k).length * 20004 ≤ 100 * 20004 := Nat.mul_le_mul_right _ (by rw [List.length_take]; omega)
        have := hfl.out
        rw [List.length_append, List.length_append]
        show _ + 2 + _ ≤ _
        omega
      clear hcs hqk
      obtain ⟨q1, q2⟩ := q
      simp only at d0 d1 hql hnx
      obtain ⟨L, hL⟩ : ∃ L, f ++ An.crlf ++ (l.take k).flatMap An.fieldT = L := ⟨_, rfl⟩
      rw [hL] at hnx hsm ⊢
      clear hL
      have hq1 := hql.1
      have hq2 := hql.2
      go_upto_region 5 with (fail)
      go_quiet (fail)
      go_wp2
      refine ⟨⟨k + 1, by omega, by go_num, ?_, Lib.hid (below_draws hbr.out _)⟩, by simp [intOf]; omega⟩
      rw [hnx.out, show (⟨#[58, 32]⟩ : ByteArray) = ⟨[58, 32].toArray⟩ from rfl, show (⟨#[13, 10]⟩ : ByteArray) = ⟨[13, 10].toArray⟩ from rfl, app_str, app_str, app_str, app_str]
    · obtain rfl : k = l.length := by omega
      rw [List.take_length] at ⊢
      have hsm : (f ++ An.crlf ++ l.flatMap An.fieldT).length ≤ 10002 + 100 * 20004 := by
        have h1 := An.flat_len (m := 20004) (l := l) (fun x hx => by have := hq'.out x hx; rw [An.fieldT_len]; omega)
        have h2 : l.length * 20004 ≤ 100 * 20004 := Nat.mul_le_mul_right _ (by omega)
        have := hfl.out
        rw [List.length_append, List.length_append]
        show _ + 2 + _ ≤ _
        omega
      have hhd : Hid (An.headT f l = f ++ An.crlf ++ l.flatMap An.fieldT ++ [13, 10]) := Lib.hid rfl
      generalize f ++ An.crlf ++ l.flatMap An.fieldT = L at *
      have hcat : ¬ 9223372036854775807 < L.length + 2 := by omega
      go_wp2
      go_ret
      rw [hhd.out]
      have e : (⟨L.toArray⟩ : ByteArray) ++ ⟨#[13, 10]⟩ = ⟨(L ++ [13, 10]).toArray⟩ := by rw [show (⟨#[13, 10]⟩ : ByteArray) = ⟨[13, 10].toArray⟩ from rfl, app_str]
      have hB : Below w.heap.size w wr := below_on hB1'.out hbr.out
      rw [← e]
      refine ⟨rfl, ?_⟩
      first | exact hB | (rw [← hn]; exact hB)
end Go.Proofs.YtabgpnieekcdhaaDoor
