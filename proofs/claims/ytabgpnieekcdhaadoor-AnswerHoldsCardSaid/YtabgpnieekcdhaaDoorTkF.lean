import Derived.Test.YtabgpnieekcdhaaDoorTkD
namespace Go.Proofs.YtabgpnieekcdhaaDoor
open Go.RowKit
attribute [local go_sem] Oper.semAt_some class_at0 class_at1 class_at2

/-! ## The document's: Trim, Token, Value -/
theorem cut1_str (b : UInt8) (r : List UInt8) : (⟨(b :: r).toArray⟩ : ByteArray).extract 1 (b :: r).length = ⟨r.toArray⟩ := by
  rw [cut_str, List.take_length]; rfl
theorem cutL_str (x : List UInt8) (b : UInt8) : (⟨(x ++ [b]).toArray⟩ : ByteArray).extract 0 ((x ++ [b]).length - 1) = ⟨x.toArray⟩ := by
  rw [cut_str]; simp
set_option maxRecDepth 100000 in
set_option maxHeartbeats 2000000 in
theorem refTrim_any (s : List UInt8) (w : World) (hs : s.length ≤ 1000000) : Calls Tryd.prog 61 #[.string ⟨s.toArray⟩] w fun e w' => e = .returned (.string ⟨(trimL s).toArray⟩) ∧ w' = w := by
  go_enter Tryd.func61, Tryd.ntmps61
  go_wp2
  go_loopw [0] (fun n wr => ∃ t : List UInt8, t.length ≤ s.length ∧ n = .string ⟨t.toArray⟩ ∧ dropL t = dropL s ∧ wr = w) (fun n _ => match n with | .string x => x.size | _ => 0)
  case atStart => exact ⟨s, Nat.le_refl _, rfl, rfl, rfl⟩
  case round =>
    obtain ⟨t, hl, rfl, hd, rfl⟩ := hrel
    cases t with
    | nil =>
      have hd' := Lib.hid (show dropR [] = trimL s by rw [trimL, ← hd]; rfl)
      clear hd
      go_wp2
      go_loopw [0] (fun n W => ∃ t : List UInt8, t.length ≤ s.length ∧ n = .string ⟨t.toArray⟩ ∧ dropR t = trimL s ∧ W = wr) (fun n _ => match n with | .string x => x.size | _ => 0)
      case atStart => exact ⟨_, hl, rfl, hd'.out, rfl⟩
      case round =>
        obtain ⟨t, hl, rfl, hd, rfl⟩ := hrel
        rcases Classical.em (t = []) with rfl | hne
        · have hd' := Lib.hid hd
          clear hd
          go_wp2
          go_ret
          exact ⟨by rw [← hd'.out]; rfl, rfl⟩
        · obtain ⟨x, b, rfl⟩ := snoc_of hne
          have hlen : (x ++ [b]).length = x.length + 1 := by simp
          have h0 : (0 : Int) < ((x ++ [b]).length : Int) := by omega
          have hlt : (x ++ [b]).length - 1 < (x ++ [b]).length := by omega
          have hb : (⟨(x ++ [b]).toArray⟩ : ByteArray)[(x ++ [b]).length - 1]'hlt = b := by rw [byE]; simp
          have hx : Calls Tryd.prog 72 #[.int .u8 (((⟨(x ++ [b]).toArray⟩ : ByteArray)[(x ++ [b]).length - 1]'hlt).toNat : Int)] wr fun e w' => e = .returned (.bool (blkB b)) ∧ w' = wr := by rw [hb]; exact blank_ref b wr
          have hcut := Lib.hid (cutL_str x b)
          have hlen' := Lib.hid hlen
          cases hc : blkB b with
          | true =>
            rw [hc] at hx
            rw [dropR_yes x hc] at hd
            have hx' := Lib.hid hx
            have hd' := Lib.hid hd
            clear hx hd hc hb hne hlen
            generalize x ++ [b] = y at *
            go_wp2_with (go_at_call 72; (with_reducible refine Calls.mono hx'.out ?_); rintro e w2 ⟨rfl, rfl⟩)
            exact ⟨⟨x, by have := hlen'.out; omega, by rw [hcut.out], hd'.out, trivial⟩, by show ByteArray.size _ < ByteArray.size _; rw [hcut.out]; show x.toArray.size < y.toArray.size; simp; have := hlen'.out; omega⟩
          | false =>
            rw [hc] at hx
            rw [dropR_no x hc] at hd
            have hx' := Lib.hid hx
            have hd' := Lib.hid hd
            clear hx hd hc hb hne hlen
            generalize x ++ [b] = y at *
            go_wp2_with (go_at_call 72; (with_reducible refine Calls.mono hx'.out ?_); rintro e w2 ⟨rfl, rfl⟩)
            go_ret
            exact ⟨by rw [← hd'.out]; rfl, rfl⟩
    | cons b r =>
      have h0 : (0 : Int) < ((b :: r).length : Int) := by simp
      have hlt : 0 < (b :: r).length := by simp
      have hx : Calls Tryd.prog 72 #[.int .u8 (((⟨(b :: r).toArray⟩ : ByteArray)[0]'hlt).toNat : Int)] wr fun e w' => e = .returned (.bool (blkB b)) ∧ w' = wr := blank_ref b wr
      have hcut := Lib.hid (cut1_str b r)
      have hlen' := Lib.hid (show (b :: r).length = r.length + 1 from rfl)
      cases hc : blkB b with
      | true =>
        rw [hc] at hx
        rw [dropL_yes r hc] at hd
        have hx' := Lib.hid hx
        have hd' := Lib.hid hd
        clear hx hd hc
        generalize b :: r = y at *
        go_wp2_with (go_at_call 72; (with_reducible refine Calls.mono hx'.out ?_); rintro e w2 ⟨rfl, rfl⟩)
        exact ⟨⟨r, by have := hlen'.out; omega, by rw [hcut.out], hd'.out, trivial⟩, by show ByteArray.size _ < ByteArray.size _; rw [hcut.out]; show r.toArray.size < y.toArray.size; simp; have := hlen'.out; omega⟩
      | false =>
        rw [hc] at hx
        rw [dropL_no r hc] at hd
        have hx' := Lib.hid hx
        have hd' := Lib.hid (show dropR (b :: r) = trimL s by rw [trimL, ← hd])
        clear hx hd hc
        generalize b :: r = y at *
        go_wp2_with (go_at_call 72; (with_reducible refine Calls.mono hx'.out ?_); rintro e w2 ⟨rfl, hw2⟩; obtain rfl := hw2.symm)
        clear hx' h0 hcut hlen'
        go_loopw [0] (fun n W => ∃ t : List UInt8, t.length ≤ s.length ∧ n = .string ⟨t.toArray⟩ ∧ dropR t = trimL s ∧ W = wr) (fun n _ => match n with | .string x => x.size | _ => 0)
        case atStart => exact ⟨_, hl, rfl, hd'.out, rfl⟩
        case round =>
          obtain ⟨t, hl, rfl, hd, rfl⟩ := hrel
          rcases Classical.em (t = []) with rfl | hne
          · have hd' := Lib.hid hd
            clear hd
            go_wp2
            go_ret
            exact ⟨by rw [← hd'.out]; rfl, rfl⟩
          · obtain ⟨x, b, rfl⟩ := snoc_of hne
            have hlen : (x ++ [b]).length = x.length + 1 := by simp
            have h0 : (0 : Int) < ((x ++ [b]).length : Int) := by omega
            have hlt : (x ++ [b]).length - 1 < (x ++ [b]).length := by omega
            have hb : (⟨(x ++ [b]).toArray⟩ : ByteArray)[(x ++ [b]).length - 1]'hlt = b := by rw [byE]; simp
            have hx : Calls Tryd.prog 72 #[.int .u8 (((⟨(x ++ [b]).toArray⟩ : ByteArray)[(x ++ [b]).length - 1]'hlt).toNat : Int)] wr fun e w' => e = .returned (.bool (blkB b)) ∧ w' = wr := by rw [hb]; exact blank_ref b wr
            have hcut := Lib.hid (cutL_str x b)
            have hlen' := Lib.hid hlen
            cases hc : blkB b with
            | true =>
              rw [hc] at hx
              rw [dropR_yes x hc] at hd
              have hx' := Lib.hid hx
              have hd' := Lib.hid hd
              clear hx hd hc hb hne hlen
              generalize x ++ [b] = y at *
              go_wp2_with (go_at_call 72; (with_reducible refine Calls.mono hx'.out ?_); rintro e w2 ⟨rfl, rfl⟩)
              exact ⟨⟨x, by have := hlen'.out; omega, by rw [hcut.out], hd'.out, trivial⟩, by show ByteArray.size _ < ByteArray.size _; rw [hcut.out]; show x.toArray.size < y.toArray.size; simp; have := hlen'.out; omega⟩
            | false =>
              rw [hc] at hx
              rw [dropR_no x hc] at hd
              have hx' := Lib.hid hx
              have hd' := Lib.hid hd
              clear hx hd hc hb hne hlen
              generalize x ++ [b] = y at *
              go_wp2_with (go_at_call 72; (with_reducible refine Calls.mono hx'.out ?_); rintro e w2 ⟨rfl, rfl⟩)
              go_ret
              exact ⟨by rw [← hd'.out]; rfl, rfl⟩
set_option maxRecDepth 100000 in
set_option maxHeartbeats 1000000 in
theorem refToken_any (s : List UInt8) (w : World) (hs : s.length ≤ 1000000) : Calls Tryd.prog 60 #[.string ⟨s.toArray⟩] w fun e w' => e = .returned (.bool (tokenL s)) ∧ w' = w := by
  go_enter Tryd.func60, Tryd.ntmps60
  go_wp2
  go_loopw [3] (fun n wr => ∃ j : Nat, j ≤ s.length ∧ n = .int .i64 (j : Int) ∧ (s.take j).all tokB = true ∧ wr = w) (fun n _ => s.length - (intOf n).toNat)
  case atStart => exact ⟨0, Nat.zero_le _, rfl, rfl, rfl⟩
  case round =>
    obtain ⟨j, hj, rfl, ha, rfl⟩ := hrel
    have ha' := Lib.hid ha
    clear ha
    by_cases hlt : j < s.length
    · have hltI : (j : Int) < (s.length : Int) := by omega
      have hx : Calls Tryd.prog 71 #[.int .u8 (((⟨s.toArray⟩ : ByteArray)[j]'hlt).toNat : Int)] wr fun e w' => e = .returned (.bool (tokB s[j])) ∧ w' = wr := sign_any s[j] wr
      have ht := tkAll_take hlt ha'.out
      have hres : tokB s[j] = false → s.all tokB = false := fun h => by
        rw [List.all_eq_false]
        exact ⟨s[j], List.getElem_mem hlt, by simp [h]⟩
      cases hc : tokB s[j] with
      | true =>
        rw [hc] at hx ht
        have hx' := Lib.hid hx
        have ht' := Lib.hid ht
        clear hx ht hc hres
        go_wp2_with (go_at_call 71; (with_reducible refine Calls.mono hx'.out ?_); rintro e w2 ⟨rfl, rfl⟩)
        exact ⟨⟨j + 1, by omega, by go_num, ht'.out, trivial⟩, by simp [intOf]; omega⟩
      | false =>
        rw [hc] at hx
        have hx' := Lib.hid hx
        have hres' := Lib.hid (hres hc)
        clear hx ht hc hres
        go_wp2_with (go_at_call 71; (with_reducible refine Calls.mono hx'.out ?_); rintro e w2 ⟨rfl, rfl⟩)
        go_ret
        exact ⟨by rw [show (tokenL s) = false from by unfold tokenL; rw [hres'.out]; simp]; rfl, rfl⟩
    · obtain rfl : j = s.length := by omega
      have hall := Lib.hid (show s.all tokB = true by have := ha'.out; rwa [List.take_length] at this)
      clear ha'
      have hres := Lib.hid (show tokenL s = decide (0 < s.length) by unfold tokenL; rw [hall.out]; cases s <;> simp)
      go_wp2
      go_ret
      exact ⟨by rw [hres.out]; rfl, rfl⟩
end Go.Proofs.YtabgpnieekcdhaaDoor
