import Derived.Test.YtajdlkohnafbeaaI
import Derived.Maps.AppendAt
import Derived.Deep.AppendLies
import Derived.Deep.CutRange
namespace Go.Proofs.Ytajdlkohnafbeaa
open Go.RowKit

/-! ## The stage's theorem -/
/-- A slice of numbers. -/
def Ints (W : World) (S : Nat → Prop) (A : Option Addr) (l : List Int) : Prop := 0 < l.length → ∃ b o, A = some ⟨b, o, none⟩ ∧ S b ∧ ∀ j z, l[j]? = some z → W.cell? ⟨b, o + j, none⟩ = some (.int .i64 z)
theorem int_info : ∃ i, Try.prog.info? 3 = some i ∧ i.zero = some (.int .i64 0) ∧ i.size = 1 ∧ i.bytes = 8 := by
  have h := info64
  cases hi : Try.prog.info? 3 with
  | none => rw [hi] at h; cases h
  | some i =>
    rw [hi] at h
    simp at h
    exact ⟨i, rfl, h⟩
/-- What has been put is in a slice of the law's own; the ring has what is left of it. -/
structure HoldsAt (w : World) (B g r most first nx : Nat) (zs : List Int) (v : Value) (W : World) : Prop where
  ch : Chain w g r most (first + nx) (zs.drop nx) W
  le : nx ≤ zs.length
  own : W.ownsRow B 3 1 v zs.length (ints zs)
  gB : g < B
  rB : r < B
  wB : w.heap.size ≤ B
  BW : B ≤ W.heap.size
theorem own_turn {B g r n : Nat} {t : TypeId} {v : Value} {xs : List Value} {W W' : World} (h : W.ownsRow B t 1 v n xs) (hT : Turn g r W W') (hg : g < B) (hr : r < B) : W'.ownsRow B t 1 v n xs := by
  refine ⟨h.1, ?_⟩
  rcases h.2 with h | ⟨b, cap, cur, hv, hb, hh, k⟩
  · exact .inl h
  · exact .inr ⟨b, cap, cur, hv, hb, (hT.block b (Array.getElem?_eq_some_iff.1 hh).1 (by omega) (by omega)).trans hh, k⟩
theorem own_below {B n : Nat} {t : TypeId} {v : Value} {xs : List Value} {W W' : World} (h : W.ownsRow B t 1 v n xs) (hb : Below W.heap.size W W') : W'.ownsRow B t 1 v n xs := by
  refine ⟨h.1, ?_⟩
  rcases h.2 with h | ⟨b, cap, cur, hv, hb', hh, k⟩
  · exact .inl h
  · exact .inr ⟨b, cap, cur, hv, hb', (hb.block b (Array.getElem?_eq_some_iff.1 hh).1).trans hh, k⟩
theorem own_at {B n cap b : Nat} {zs : List Int} {W : World} (h : W.ownsRow B 3 1 (.slice (some ⟨b, 0, none⟩) n cap) n (ints zs)) {j : Nat} {z : Int} (hz : zs[j]? = some z) : W.cell? ⟨b, j, none⟩ = some (.int .i64 z) := by
  have := World.ownsRow.cells h (g := b) rfl j (.int .i64 z) (by unfold ints; rw [List.getElem?_map, hz]; rfl)
  have h0 : (⟨b, 0, none⟩ : Addr).add j = ⟨b, j, none⟩ := by unfold Addr.add; split <;> simp_all
  rw [h0] at this
  exact this
/-- What Put tells, of a ring that has the numbers from nx on. -/
theorem put_holds (g r most first nx n : Nat) (zs : List Int) (x : Int) (w : World) (h : Rg w g r most (first + nx) (zs.drop nx)) (hle : nx ≤ zs.length) (hn : first + zs.length = n) (hl : n ≤ 18446744073709551614) :
    ∃ nx' gone had, Calls Try.prog 16 #[.pointer (some ⟨g, 0, none⟩), .int .i64 x] w (PutOk g r most (first + nx') n ((zs ++ [x]).drop nx') gone had w) ∧ nx' ≤ zs.length ∧
      ((had = false ∧ nx' = nx) ∨ (had = true ∧ nx' = nx + 1 ∧ nx < zs.length ∧ (zs ++ [x])[nx]? = some gone)) := by
  have hnum := h.num
  have hlen : (zs.drop nx).length = zs.length - nx := List.length_drop
  by_cases hr : (zs.drop nx).length < most
  · refine ⟨nx, 0, false, ?_, hle, .inl ⟨rfl, rfl⟩⟩
    have := put_room g r most (first + nx) n (zs.drop nx) x w h (by omega) hl hr
    rw [List.drop_append_of_le_length hle]
    exact this
  · have h1 : nx < zs.length := by omega
    have h2 : zs.drop nx = zs[nx] :: zs.drop (nx + 1) := List.drop_eq_getElem_cons h1
    rw [h2] at h
    have h3 : (zs.drop (nx + 1)).length = zs.length - (nx + 1) := List.length_drop
    refine ⟨nx + 1, zs[nx], true, ?_, h1, .inr ⟨rfl, rfl, h1, by rw [List.getElem?_append_left h1, List.getElem?_eq_getElem h1]⟩⟩
    have := put_over g r most (first + nx) n zs[nx] (zs.drop (nx + 1)) x w h (by omega) hl (by omega)
    rw [List.drop_append_of_le_length h1]
    exact this
set_option maxRecDepth 100000 in
set_option maxHeartbeats 4000000 in
theorem lawHolds (most first n : Nat) (A : Option Addr) (c : Nat) (l : List Int) (w : World) (hl : Ints w (· < w.heap.size) A l) (hn : n = l.length) (hfew : n ≤ 80) (h1 : 1 ≤ most) (h2 : most ≤ 4096) (hf : first ≤ 18446744073709551615) :
    Calls Try.prog 6 #[.int .i64 (most : Int), .int .u64 (first : Int), .slice A n c] w fun e w' => e = .returned (.bool true) ∧ Below w.heap.size w w' := by
  have hl' := Lib.hid hl
  have hn' := Lib.hid hn
  have hf' := Lib.hid hf
  clear hl hn
  go_enter Try.func6, Try.ntmps6
  go_wp2_with fail
  refine (new_ok most first w h1 h2 hf).mono ?_
  rintro e w1 ⟨g, r, rfl, hR, hg, hr, hB⟩
  have hlt := hR.lt
  have h0 : Hid (HoldsAt w w1.heap.size g r most first 0 [] (.slice none 0 0) w1) := ⟨⟨hR, hg, hr, hB⟩, Nat.le_refl _, World.ownsRow_nil _ _ _ _, hlt.1, hlt.2, hB.size, Nat.le_refl _⟩
  clear hR hg hr hB hlt
  generalize w1.heap.size = B at h0
  go_wp2_with (first | (go_at_call 10; refine (num_any _ _).mono ?_; rintro e w' ⟨rfl, rfl⟩) | fail)
  go_loopw [9, 10, 11] (fun v x i wr => ∃ (k nx : Nat), k ≤ n ∧ i = .int .i64 k ∧ x = .int .i64 nx ∧ HoldsAt w B g r most first nx (l.take k) v wr) (fun _ _ i _ => n - (intOf i).toNat)
  case atStart => exact ⟨0, 0, Nat.zero_le _, rfl, rfl, by simpa using h0.out⟩
  case round =>
    obtain ⟨k, nx, hk, rfl, rfl, hat⟩ := hrel
    have hat' := Lib.hid hat
    clear hat h0
    by_cases hlt : k < n
    · have hkl : k < l.length := by have := hn'.out; omega
      obtain ⟨b, o, rfl, hS, hc⟩ := hl'.out (by omega)
      obtain ⟨x, hx⟩ : ∃ x, l[k] = x := ⟨_, rfl⟩
      have hcx := hc k x (by rw [List.getElem?_eq_getElem hkl, hx])
      have hts : l.take (k + 1) = l.take k ++ [x] := by rw [List.take_succ_eq_append_getElem hkl, hx]
      have ex : wr.cell? ⟨b, o + k, none⟩ = some (.int .i64 x) := (hat'.out.ch.b.cell (p := ⟨b, o + k, none⟩) hS).trans hcx
      have hzl : (l.take k).length = k := by rw [List.length_take]; omega
      have hts' := Lib.hid hts
      have hnum := hat'.out.ch.q.num
      have hle := hat'.out.le
      rw [List.length_drop] at hnum
      have hki : (0 : Int) ≤ (k : Int) := by omega
      have hkn : (k : Int) < (n : Int) := by omega
      clear hts hx hc
      generalize l.take k = zs at hat' hts' hzl hnum hle
      by_cases hfull : 18446744073709551614 < first + k
      · have hput := Lib.hid (put_full g r most (first + nx) (zs.drop nx) x wr hat'.out.ch.q (by rw [List.length_drop]; omega))
        have hz : ((111 : Int) == 0) = false := by decide
        have hnext := Lib.hid (next_any g r most (first + nx) 18446744073709551615 (zs.drop nx) wr hat'.out.ch.q (by rw [List.length_drop]; omega))
        clear hzl hnum hle hfull
        go_wp2_with (first | (go_at_call 16; refine hput.out.mono ?_; rintro e w' ⟨rfl, rfl⟩) | (go_at_call 10; refine (num_any _ _).mono ?_; rintro e w' ⟨rfl, rfl⟩) | (go_at_call 22; refine hnext.out.mono ?_; rintro e w' ⟨rfl, rfl⟩) | (go_at_call 7; refine (works_any _).mono ?_; rintro e w5 ⟨rfl, hb⟩))
        go_ret
        exact ⟨rfl, hat'.out.ch.b.trans (hb.mono hat'.out.ch.b.size)⟩
      · obtain ⟨nx1, gone, had, hput, hnx, hhad⟩ := put_holds g r most first nx (first + k) zs x wr hat'.out.ch.q hle (by omega) (by omega)
        obtain ⟨N, hN⟩ : ∃ N, first + k = N := ⟨_, rfl⟩
        rw [hN] at hput
        have hput' := Lib.hid hput
        have hhad' := Lib.hid hhad
        have hNl : N ≤ 18446744073709551614 := by omega
        have hN' := Lib.hid hN
        obtain ⟨i64, hi64, z64, s64, b64⟩ := int_info
        have hi64' := Lib.hid hi64
        have z64' := Lib.hid z64
        have s64' := Lib.hid s64
        have b64' := Lib.hid b64
        have hzl' := Lib.hid hzl
        have hle' := Lib.hid hle
        have hnx' := Lib.hid hnx
        have hsum : Hid ((first : Int) + (k : Int) = (N : Int)) := by show _ = _; omega
        clear hput hhad hN hi64 z64 s64 b64 hzl hnum hle hnx hfull
        go_wp2_with fail
        refine hput'.out.mono ?_
        rintro e w3 ⟨rfl, hR3, hT3, hz3⟩
        have ho3 := Lib.hid (own_turn hat'.out.own hT3 hat'.out.gB hat'.out.rB)
        have ch3 := Lib.hid (hat'.out.ch.turn hR3 hT3)
        have hsz3 : Hid (B ≤ w3.heap.size) := by have := hat'.out.BW; show _ ≤ _; omega
        have ex3 : w3.cell? ⟨b, o + k, none⟩ = some (.int .i64 x) := (ch3.out.b.cell (p := ⟨b, o + k, none⟩) hS).trans hcx
        clear hR3 hT3 hz3 hput'
        go_upto_region 17 with (first
          | (go_at_call 10; refine (num_any _ _).mono ?_; rintro e w' ⟨rfl, rfl⟩)
          | (at_builtin
             refine wpList_append_own_at _ rfl (.tmp 66) (.tmp 71) 29 rfl B 3 i64 (.int .i64 0) 1 8 Try.underlying29 hi64'.out z64'.out s64'.out b64'.out rfl (by omega) _ zs.length (ints zs) rfl (ho3.out.alloc _) ⟨w3.heap.size, 0, none⟩ 1 1 [.int .i64 x] rfl rfl (cell_one_new _ _ _) (by intro u hu; rw [List.mem_singleton.1 hu]; rfl) (by have := hzl'.out; unfold maxLen; omega) (by have := hzl'.out; omega) (by have := hsz3.out; simp; omega) ?_
             intro v4 w4 ho4 gr4 hv4 hb4)
          | fail)
        have hk4 := hzl'.out
        have ho4' : w4.ownsRow B 3 1 v4 (k + 1) (ints (zs ++ [x])) := by
          rw [show ints (zs ++ [x]) = ints zs ++ [.int .i64 x] by simp [ints], ← hk4]
          exact ho4
        obtain ⟨ab, acap, rfl, hab, habl⟩ := ho4'.form (by omega)
        have ch4 : Hid (Chain w g r most (first + nx1) ((zs ++ [x]).drop nx1) w4) := by
          have hba := (Below.refl w3.heap.size w3).alloc (Nat.le_refl _) (.cells #[.int .i64 x] 3)
          have c4 := ch3.out.below hba
          have hlt := c4.q.lt
          have hsz := hat'.out
          have hgl := ch3.out.q.lt
          have hgr : ∀ j, j < (w3.alloc (.cells #[.int .i64 x] 3)).heap.size → j < B → w4.heap[j]? = (w3.alloc (.cells #[.int .i64 x] 3)).heap[j]? := fun j hj hjB => gr4.block j hj (fun e => by
            have := World.ownsRow.lt ho3.out j e.symm
            omega)
          refine ⟨c4.q.kept (hgr g hlt.1 hsz.gB) (hgr r hlt.2 hsz.rB), c4.gge, c4.rge, c4.b.trans ⟨gr4.os, gr4.tape, gr4.output, gr4.size, fun j hj => hgr j ?_ ?_⟩⟩
          · have := c4.b.size; omega
          · have := hsz.wB; omega
        have hown4 := Lib.hid ho4'
        have hsb : (first : Int) + (k : Int) ≤ 18446744073709551615 := by have := hN'.out; omega
        have hq1 : ((N : Int) != (first : Int) + (k : Int)) = false := by have := hN'.out; rw [bne_eq_false_iff_eq]; omega
        have hB4 : Hid (B ≤ w4.heap.size) := by have := hsz3.out; have := gr4.size; simp at this; show _ ≤ _; omega
        clear ho4 ho4' gr4 hv4 hb4 ch3 ho3 hsz3 hk4 ex3
        cases had
        case' false =>
          obtain rfl : nx1 = nx := by rcases hhad'.out with h | h; exact h.2; cases h.1
          go_upto_if 101 with (fail)
        case' true =>
          obtain ⟨h1', h2', h3'⟩ : nx1 = nx + 1 ∧ nx < zs.length ∧ (zs ++ [x])[nx]? = some gone := by rcases hhad'.out with h | h; cases h.1; exact h.2
          have hc1 : w4.cell? ⟨ab, nx, none⟩ = some (.int .i64 gone) := own_at hown4.out h3'
          have hlt1 : (nx : Int) < (k : Int) + 1 := by have := hzl'.out; omega
          have hq2 : (gone != gone) = false := by simp
          have hn1 := Lib.hid h1'
          clear h1' h2' h3'
          go_upto_if 101 with (fail)
          rw [show (nx : Int) + 1 = (nx1 : Int) by have := hn1.out; omega]
          clear hc1 hlt1 hq2 hn1
        all_goals
          have hl1 : Hid ((zs ++ [x]).length = k + 1) := by have := hzl'.out; show _ = _; simp; omega
          have ch4' : Hid (Chain w g r most (first + nx1) ((zs ++ [x]).drop nx1) w4) := ch4.out
          clear hq1 hsb hsum
          go_cut [10, 16, 17] from 99 to 121 (fun s10 s16 s17 wx => ∃ nx2, s10 = .int .i64 (nx2 : Nat) ∧ nx2 ≤ k + 1 ∧ Chain w g r most (first + nx2) ((zs ++ [x]).drop nx2) wx ∧ wx.ownsRow B 3 1 (.slice (some ⟨ab, 0, none⟩) (k + 1) acap) (k + 1) (ints (zs ++ [x])) ∧ B ≤ wx.heap.size)
          case first =>
            by_cases h5 : k % 5 = 4
            · have hk5 : ((k : Int) % 5 == 4) = true := by rw [beq_iff_eq]; omega
              have hnl : nx1 < (zs ++ [x]).length := by have := hl1.out; have := hzl'.out; have := hnx'.out; omega
              have hcons : (zs ++ [x]).drop nx1 = (zs ++ [x])[nx1] :: (zs ++ [x]).drop (nx1 + 1) := List.drop_eq_getElem_cons hnl
              obtain ⟨z, hz⟩ : ∃ z, (zs ++ [x])[nx1] = z := ⟨_, rfl⟩
              have hc1 : w4.cell? ⟨ab, nx1, none⟩ = some (.int .i64 z) := own_at hown4.out (by rw [List.getElem?_eq_getElem hnl, hz])
              rw [hz] at hcons
              have hch := ch4'.out
              rw [hcons] at hch
              have hdrop := Lib.hid (drop_any g r most (first + nx1) z ((zs ++ [x]).drop (nx1 + 1)) w4 hch.q)
              have hch' := Lib.hid hch
              have hlt1 : (nx1 : Int) < (k : Int) + 1 := by have := hl1.out; omega
              have hq2 : (z != z) = false := by simp
              clear hnl hcons hz hch h5
              go_wp2_with fail
              refine hdrop.out.mono ?_
              rintro e w5 ⟨rfl, hR5, hT5, hz5⟩
              have hc5 : w5.cell? ⟨ab, nx1, none⟩ = some (.int .i64 z) := (World.cell?_of_block (hT5.block ab habl (by have := hat'.out.gB; omega) (by have := hat'.out.rB; omega))).trans hc1
              have ch5 := Lib.hid (hch'.out.turn hR5 hT5)
              have ho5 := Lib.hid (own_turn hown4.out hT5 hat'.out.gB hat'.out.rB)
              have hB5 : Hid (B ≤ w5.heap.size) := by have := hB4.out; show _ ≤ _; omega
              clear hR5 hT5 hz5 hc1
              go_wp2_with fail
              go_meet
              case rel => exact ⟨nx1 + 1, by go_num, by have := hnx'.out; have := hzl'.out; omega, ch5.out, ho5.out, hB5.out⟩
            · have hk5 : ((k : Int) % 5 == 4) = false := by rw [beq_eq_false_iff_ne]; omega
              clear h5
              go_wp2_with fail
              go_meet
              case rel => exact ⟨nx1, rfl, by have := hnx'.out; have := hzl'.out; omega, ch4'.out, hown4.out, hB4.out⟩
          case rest =>
            obtain ⟨nx2, rfl, hnx2, hch, hown, hBc⟩ := hcut
            obtain ⟨m, hm⟩ : ∃ m, ((zs ++ [x]).drop nx2).length = m := ⟨_, rfl⟩
            obtain ⟨F, hF⟩ : ∃ F, first + nx2 = F := ⟨_, rfl⟩
            obtain ⟨M, hM⟩ : ∃ M, F + m = M := ⟨_, rfl⟩
            have hl2 := hl1.out
            have hm2 : k + 1 - nx2 = m := by rw [← hm, List.length_drop, hl2]
            rw [hF] at hch
            have hnum := hch.q.num
            rw [hm] at hnum
            have hlen := Lib.hid (fun q => len_any g r most F _ (wc.drewN q) (hch.drewN q).q)
            rw [hm] at hlen
            have hnx3 := Lib.hid (fun q => next_any g r most F M _ (wc.drewN q) (hch.drewN q).q (by rw [hm]; exact hM))
            have hfst := Lib.hid (fun q => first_any g r most F _ (wc.drewN q) (hch.drewN q).q)
            have hch' := Lib.hid hch
            have hown' := Lib.hid hown
            have hBc' := Lib.hid hBc
            have q1 : ((m : Int) != (k : Int) + 1 - (nx2 : Int)) = false := by rw [bne_eq_false_iff_eq]; omega
            have q2 : decide (most < m) = false := decide_eq_false (by omega)
            have q3 : ((M : Int) - (F : Int) != (m : Int)) = false := by rw [bne_eq_false_iff_eq]; omega
            have q4 : (F : Int) ≤ (M : Int) := by omega
            have q5 : (M : Int) ≤ 18446744073709551615 := by omega
            have q6 : (m : Int) ≤ 4096 := by omega
            have q7 : (nx2 : Int) ≤ (k : Int) + 1 := by omega
            have q8 : (k : Int) ≤ 80 := by omega
            have hF' := Lib.hid hF
            have hm' := Lib.hid hm
            have hx2 := Lib.hid hnx2
            have hFM : Hid (first + k + 1 ≤ 18446744073709551615) := by show _ ≤ _; omega
            clear hch hown hBc hm hF hM hl2 hm2 hnum hnx2
            go_wp2_with fail
            refine (hlen.out 0).mono ?_
            rintro e w6 ⟨rfl, p1, rfl⟩
            go_wp2_with fail
            refine (hlen.out p1).mono ?_
            rintro e w6 ⟨rfl, p2, rfl⟩
            rw [World.drewN_drewN]
            generalize p1 + p2 = p3
            go_wp2_with fail
            refine (hnx3.out p3).mono ?_
            rintro e w6 ⟨rfl, rfl⟩
            go_wp2_with fail
            refine (hfst.out p3).mono ?_
            rintro e w6 ⟨rfl, rfl⟩
            go_wp2_with fail
            refine (hlen.out p3).mono ?_
            rintro e w6 ⟨rfl, p4, rfl⟩
            rw [World.drewN_drewN]
            generalize p3 + p4 = p5
            have ch5 : Hid (Chain w g r most F ((zs ++ [x]).drop nx2) (wc.drewN p5)) := hch'.out.drewN p5
            have ho5 : Hid ((wc.drewN p5).ownsRow B 3 1 (.slice (some ⟨ab, 0, none⟩) (k + 1) acap) (k + 1) (ints (zs ++ [x]))) := own_below hown'.out (below_draws (Below.refl _ _) p5)
            have hB5 : Hid (B ≤ (wc.drewN p5).heap.size) := hBc'.out
            clear hlen hnx3 hfst hch' hown' hBc'
            generalize wc.drewN p5 = w5 at ch5 ho5 hB5 ⊢
            go_wp2_with fail
            clear q1 q2 q3 q4 q5
            obtain ⟨wo, rfl⟩ : ∃ wo : World, wo = wr := ⟨_, rfl⟩
            go_loopw [18] (fun i wr => ∃ j : Nat, nx2 ≤ j ∧ j ≤ k + 1 ∧ i = .int .i64 j ∧ Chain w g r most F ((zs ++ [x]).drop nx2) wr ∧ wr.ownsRow B 3 1 (.slice (some ⟨ab, 0, none⟩) (k + 1) acap) (k + 1) (ints (zs ++ [x])) ∧ B ≤ wr.heap.size) (fun i _ => k + 1 - (intOf i).toNat)
            case atStart => exact ⟨nx2, Nat.le_refl _, hx2.out, rfl, ch5.out, ho5.out, hB5.out⟩
            case round =>
              obtain ⟨j, hj1, hj2, rfl, hcj, hoj, hBj⟩ := hrel
              have hcj' := Lib.hid hcj
              have hoj' := Lib.hid hoj
              have hBj' := Lib.hid hBj
              clear hcj hoj hBj ch5 ho5 hB5
              by_cases hjl : j < k + 1
              · have hjz : j < (zs ++ [x]).length := by have := hl1.out; omega
                obtain ⟨z, hz⟩ : ∃ z, (zs ++ [x])[j] = z := ⟨_, rfl⟩
                have hcz : _ := own_at (j := j) (z := z) hoj'.out (by rw [List.getElem?_eq_getElem hjz, hz])
                have hgot : got F ((zs ++ [x]).drop nx2) (F + (j - nx2)) = (z, true) := by
                  have := got_yes (first := F) (vs := (zs ++ [x]).drop nx2) (i := F + (j - nx2)) (by omega) (by rw [List.length_drop]; omega)
                  rw [this]
                  simp only [Nat.add_sub_cancel_left, List.getElem_drop]
                  have h3 : nx2 + (j - nx2) = j := by omega
                  simp only [h3, hz]
                obtain ⟨J, hJ⟩ : ∃ J, first + j = J := ⟨_, rfl⟩
                have hJF : F + (j - nx2) = J := by have := hF'.out; omega
                rw [hJF] at hgot
                have hget := get_any g r most F J ((zs ++ [x]).drop nx2) _ hcj'.out.q (by have := hFM.out; omega)
                rw [hgot] at hget
                have hget' := Lib.hid hget
                have hJs : (first : Int) + (j : Int) = (J : Int) := by omega
                have hJb : (J : Int) ≤ 18446744073709551615 := by have := hFM.out; omega
                have hq9 : (z != z) = false := by simp
                clear hjz hz hgot hget hJ hJF
                go_wp2_with fail
                refine hget'.out.mono ?_
                rintro e w7 ⟨rfl, p, rfl⟩
                go_wp2_with fail
                go_roundw
                case rel => exact ⟨j + 1, by omega, by omega, by go_num, hcj'.out.drewN p, own_below hoj'.out (below_draws (Below.refl _ _) p), hBj'.out⟩
                case measure => simp [intOf]; omega
              · obtain rfl : j = k + 1 := by omega
                go_wp2_with fail
                refine ⟨⟨k + 1, nx2, by omega, by go_num, rfl, ?_⟩, by simp [intOf]; omega⟩
                have hA := hat'.out
                have hl3 := hl1.out
                have hc := hcj'.out
                rw [← hF'.out] at hc
                rw [hts'.out]
                exact ⟨hc, by rw [hl3]; exact hx2.out, by rw [hl3]; exact hoj'.out, hA.gB, hA.rB, hA.wB, hBj'.out⟩
    · obtain rfl : k = n := by omega
      go_wp2_with (go_at_call 7; refine (works_any _).mono ?_; rintro e w5 ⟨rfl, hb⟩)
      go_ret
      exact ⟨rfl, hat'.out.ch.b.trans (hb.mono hat'.out.ch.b.size)⟩
end Go.Proofs.Ytajdlkohnafbeaa
