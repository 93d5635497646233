import Derived.Test.YtnpifkbndpgabaaDoorP
namespace Go.Proofs.YtnpifkbndpgabaaDoor
open Go.RowKit

/-- How it stands behind k calls. -/
def HoldsAt (w : World) (g room : Nat) (k : Nat) (sin sout : ByteArray) (W : World) : Prop :=
  ∃ r bs, sin.data.toList = sout.data.toList ++ bs ∧ sin.size ≤ 300 * k ∧ Chain w g r room bs W
theorem bytes_append (a b : ByteArray) : (a ++ b).data.toList = a.data.toList ++ b.data.toList := by rw [ByteArray.data_append, Array.toList_append]
theorem bytes_len (a : ByteArray) : a.size = a.data.toList.length := by rw [Array.length_toList]; rfl
theorem bytes_ext {a b : ByteArray} (h : a.data.toList = b.data.toList) : a = b := by
  cases a; cases b
  simp only at h
  congr
  exact Array.toList_inj.1 h

set_option maxRecDepth 100000 in
set_option maxHeartbeats 4000000 in
theorem lawHolds (room n : Nat) (A : Option Addr) (c : Nat) (ds : List Deed) (w : World) (hds : Deeds w (· < w.heap.size) A ds) (hn : n = ds.length) (hT : Tab w) (hfew : fewB 60 ds = true) (hroom : room ≤ 1048576) :
    Calls Tryd.prog 6 #[.int .i64 (room : Int), .slice A n c] w fun e w' => e = .returned (.bool true) ∧ Below w.heap.size w w' := by
  have hfw := of_decide_eq_true hfew
  have hl : n ≤ 60 := by have := hfw.1; omega
  have hall := Lib.hid hfw.2
  have hf := few_any A (· < w.heap.size) ds n c 60 w hds hn (by omega) (by omega)
  rw [hfew] at hf
  have hf' := Lib.hid hf
  have hT' := Lib.hid hT
  have hds' := Lib.hid hds
  have hn' := Lib.hid hn
  have h0 : (0 : Int) ≤ (room : Int) := by omega
  have h1 : (room : Int) ≤ 1048576 := by omega
  clear hds hT hfew hfw hn hf
  go_enter Tryd.func6, Tryd.ntmps6
  go_wp2_with (first | (go_at_call 7; refine hf'.out.mono ?_; rintro e w1 ⟨rfl, q, rfl⟩) | fail)
  refine (new_ok room (w.drewN q) (hT'.out.below (below_draws (Below.refl _ _) q) hT'.out.lt) hroom).mono ?_
  intro e w1 hm
  obtain rfl := hm.1
  have ch1 : Hid (Chain w w.heap.size w.heap.size room [] w1) := hm.chain (below_draws (Below.refl w.heap.size w) q)
  clear hm hf'
  go_wp2
  go_loopw [7, 8, 9] (fun x y i wr => ∃ (k : Nat) (sin sout : ByteArray), k ≤ n ∧ i = .int .i64 k ∧ x = .string sin ∧ y = .string sout ∧ HoldsAt w w.heap.size room k sin sout wr) (fun _ _ i _ => n - (intOf i).toNat)
  case atStart => exact ⟨0, ⟨#[]⟩, ⟨#[]⟩, Nat.zero_le _, rfl, rfl, rfl, w.heap.size, [], rfl, Nat.le_refl _, ch1.out⟩
  case round =>
    obtain ⟨k, sin, sout, hk, rfl, rfl, rfl, r, bs, hio, hsz, hch⟩ := hrel
    have hio' := Lib.hid hio
    have hch' := Lib.hid hch
    clear hio hch ch1
    by_cases hlt : k < n
    · have hkl : k < ds.length := by have := hn'.out; omega
      obtain ⟨b, o, rfl, hS, hc⟩ := hds'.out.1 (by omega)
      obtain ⟨hcw, hcn, hca, hcb⟩ := hc k _ (List.getElem?_eq_getElem hkl)
      obtain ⟨hsa, hsb, hbw, hbn⟩ := hds'.out.2 _ (List.getElem_mem hkl)
      have hsum := hall.out _ (List.getElem_mem hkl)
      have hB := hch'.out.b
      have ew : wr.cell? ⟨b, o + k * 4, none⟩ = some (.int .i64 ds[k].what) := (hB.cell (p := ⟨b, o + k * 4, none⟩) hS).trans hcw
      have en : wr.cell? ⟨b, o + k * 4 + 1, none⟩ = some (.int .i64 ds[k].n) := (hB.cell (p := ⟨b, o + k * 4 + 1, none⟩) hS).trans hcn
      generalize ds[k] = d at hcw hcn hca hcb hsa hsb hbw hbn hsum ew en
      have hca' := Lib.hid hca
      have hcb' := Lib.hid hcb
      have hsa' := Lib.hid hsa
      have hsb' := Lib.hid hsb
      have hS' := Lib.hid hS
      clear hcw hcn hca hcb hsa hsb hc hB hS hkl
      by_cases hp : 0 ≤ d.what ∧ d.what < 3
      · obtain ⟨hp0, hp3⟩ := hp
        have ch2 : Hid (Chain w w.heap.size r room bs wr.drew) := hch'.out.below (Below.refl _ _).drew
        have ea : wr.drew.cell? ⟨b, o + k * 4 + 2, none⟩ = some (.slice d.a.A d.a.l.length d.a.c) := (ch2.out.b.cell (p := ⟨b, o + k * 4 + 2, none⟩) hS'.out).trans hca'.out
        have eb : wr.drew.cell? ⟨b, o + k * 4 + 3, none⟩ = some (.slice d.b.A d.b.l.length d.b.c) := (ch2.out.b.cell (p := ⟨b, o + k * 4 + 3, none⟩) hS'.out).trans hcb'.out
        have sa2 := Lib.hid (hsa'.out.kept (W' := wr.drew) (fun b hb => ch2.out.b.block b hb))
        have sb2 := Lib.hid (hsb'.out.kept (W' := wr.drew) (fun b hb => ch2.out.b.block b hb))
        have hg := ch2.out.q.lt
        have hbz := ch2.out.b.size
        have hgg := ch2.out.gge
        have hrg := ch2.out.rge
        have hbl : b < wr.drew.heap.size := Nat.lt_of_lt_of_le hS'.out hbz
        by_cases hok : bs.length + (d.a.l.length + d.b.l.length) ≤ room
        · have hpush := Lib.hid (push_deed (a := d.a) (b := d.b) ch2.out sa2.out sb2.out (fun k hk => by omega) hok)
          clear hch'
          go_wp2
          go_region_held3 (fun w' => w'.cell? ⟨b, o + k * 4 + 2, none⟩ = some (.slice d.a.A d.a.l.length d.a.c) ∧ w'.cell? ⟨b, o + k * 4 + 3, none⟩ = some (.slice d.b.A d.b.l.length d.b.c))
            (first | exact ⟨ea, eb⟩ | exact ⟨(World.cell?_alloc_lt _ _ ⟨b, o + k * 4 + 2, none⟩ hbl).trans ea, (World.cell?_alloc_lt _ _ ⟨b, o + k * 4 + 3, none⟩ hbl).trans eb⟩ | exact hS3)
            (first | (go_at_call 19; refine hpush.out.mono ?_; rintro e w3 ⟨rfl, r3, ch3, hr3, hT3⟩; have ch3' := Lib.hid ch3; clear ch3 hT3 hr3; have hS3 : w3.cell? ⟨b, o + k * 4 + 2, none⟩ = some (.slice d.a.A d.a.l.length d.a.c) ∧ w3.cell? ⟨b, o + k * 4 + 3, none⟩ = some (.slice d.b.A d.b.l.length d.b.c) := ⟨(ch3'.out.b.cell (p := ⟨b, o + k * 4 + 2, none⟩) hS'.out).trans hca'.out, (ch3'.out.b.cell (p := ⟨b, o + k * 4 + 3, none⟩) hS'.out).trans hcb'.out⟩) | (go_at_call 10; refine (num_any _ _).mono ?_; rintro e w' ⟨rfl, rfl⟩))
          have ea3 := hS3.1
          have eb3 := hS3.2
          have ta := (hsa'.out.kept (W' := w3) (fun b hb => ch3'.out.b.block b hb)).text
          have tb := (hsb'.out.kept (W' := w3) (fun b hb => ch3'.out.b.block b hb)).text
          clear ea eb sa2 sb2 ch2 hS3
          go_wp2
          go_quiet (fail)
          go_wp2_with fail
          have ch4 : Hid (Chain w w.heap.size r3 room (bs ++ (d.a.l ++ d.b.l)) (w3.drewN nq)) := ch3'.out.drewN nq
          generalize hb4 : bs ++ (d.a.l ++ d.b.l) = bs4 at ch4
          generalize hs4 : sin ++ (⟨d.a.l.toArray⟩ : ByteArray) ++ (⟨d.b.l.toArray⟩ : ByteArray) = sin4 at ⊢
          generalize w3.drewN nq = w4 at ch4 ⊢
          have hio4 : Hid (sin4.data.toList = sout.data.toList ++ bs4) := by show _ = _; rw [← hs4, bytes_append, bytes_append, hio'.out, ← hb4]; simp
          have hsz4 : Hid (sin4.size ≤ 300 * (k + 1)) := by
            show _ ≤ _
            rw [← hs4, bytes_len, bytes_append, bytes_append, List.length_append, List.length_append, ← bytes_len]
            show sin.size + d.a.l.length + d.b.l.length ≤ _
            omega
          clear ch3' ta tb ea3 eb3 hb4 hs4
          have hl4 := ch4.out.q.small
          have hlen4 : bs4.length ≤ room := hl4.1
          have hg1 : decide ((room : Int) < (bs4.length : Int)) = false := by rw [decide_eq_false_iff_not]; omega
          have hg2 : ((bs4.length : Int) + ((room - bs4.length : Nat) : Int) != (room : Int)) = false := by rw [bne_eq_false_iff_eq]; omega
          have hsz5 : sin4.size = sout.size + bs4.length := by rw [bytes_len, bytes_len, hio4.out, List.length_append]
          have hg3 : ((sin4.size : Int) != (sout.size : Int) + (bs4.length : Int)) = false := by rw [bne_eq_false_iff_eq]; omega
          have hsz6 : sin4.size ≤ 18000 := by have := hsz4.out; omega
          have hsz7 : sout.size ≤ 18000 := by omega
          clear hsz5 hl4
          refine (len_any w.heap.size r3 room bs4 w4 ch4.out.q).mono ?_
          rintro e w' ⟨rfl, rfl⟩
          go_wp2_with (first | (go_at_call 20; (with_reducible refine (len_any w.heap.size r3 room bs4 w4 ch4.out.q).mono ?_); rintro e w' ⟨rfl, rfl⟩) | (go_at_call 21; refine (room_any w.heap.size r3 room bs4 w4 ch4.out.q).mono ?_; rintro e w' ⟨rfl, q4, rfl⟩) | (go_at_call 20; refine (len_any w.heap.size r3 room bs4 _ (ch4.out.drewN q4).q).mono ?_; rintro e w' ⟨rfl, rfl⟩))
          go_roundw
          case rel => exact ⟨k + 1, sin4, sout, by omega, by go_num, rfl, rfl, r3, bs4, hio4.out, hsz4.out, ch4.out.drewN q4⟩
          case measure => simp [intOf]; omega
        · have hpush := Lib.hid (push_deed_no (a := d.a) (b := d.b) ch2.out sa2.out sb2.out (fun k hk => by omega) (by omega))
          have hz : ((120 : Int) == 0) = false := by decide
          clear hch'
          go_wp2
          go_region_held3 (fun w' => w'.cell? ⟨b, o + k * 4 + 2, none⟩ = some (.slice d.a.A d.a.l.length d.a.c) ∧ w'.cell? ⟨b, o + k * 4 + 3, none⟩ = some (.slice d.b.A d.b.l.length d.b.c))
            (first | exact ⟨ea, eb⟩ | exact ⟨(World.cell?_alloc_lt _ _ ⟨b, o + k * 4 + 2, none⟩ hbl).trans ea, (World.cell?_alloc_lt _ _ ⟨b, o + k * 4 + 3, none⟩ hbl).trans eb⟩ | exact hS3)
            (first | (go_at_call 19; refine hpush.out.mono ?_; rintro e w3 ⟨rfl, ch3, hB3⟩; have ch3' := Lib.hid ch3; clear ch3 hB3; have hS3 : w3.cell? ⟨b, o + k * 4 + 2, none⟩ = some (.slice d.a.A d.a.l.length d.a.c) ∧ w3.cell? ⟨b, o + k * 4 + 3, none⟩ = some (.slice d.b.A d.b.l.length d.b.c) := ⟨(ch3'.out.b.cell (p := ⟨b, o + k * 4 + 2, none⟩) hS'.out).trans hca'.out, (ch3'.out.b.cell (p := ⟨b, o + k * 4 + 3, none⟩) hS'.out).trans hcb'.out⟩) | (go_at_call 10; refine (num_any _ _).mono ?_; rintro e w' ⟨rfl, rfl⟩))
          have ch4 := Lib.hid ch3'.out
          have hio4 := Lib.hid hio'.out
          have hsz4 : Hid (sin.size ≤ 300 * (k + 1)) := by show _ ≤ _; omega
          clear ea eb sa2 sb2 ch2 hS3 ch3'
          go_wp2_with fail
          have hl4 := ch4.out.q.small
          have hlen4 : bs.length ≤ room := hl4.1
          have hg1 : decide ((room : Int) < (bs.length : Int)) = false := by rw [decide_eq_false_iff_not]; omega
          have hg2 : ((bs.length : Int) + ((room - bs.length : Nat) : Int) != (room : Int)) = false := by rw [bne_eq_false_iff_eq]; omega
          have hsz5 : sin.size = sout.size + bs.length := by rw [bytes_len, bytes_len, hio4.out, List.length_append]
          have hg3 : ((sin.size : Int) != (sout.size : Int) + (bs.length : Int)) = false := by rw [bne_eq_false_iff_eq]; omega
          have hsz6 : sin.size ≤ 18000 := by have := hsz4.out; omega
          have hsz7 : sout.size ≤ 18000 := by omega
          clear hsz5 hl4
          refine (len_any w.heap.size r room bs w3 ch4.out.q).mono ?_
          rintro e w' ⟨rfl, rfl⟩
          go_wp2_with (first | (go_at_call 20; (with_reducible refine (len_any w.heap.size r room bs w3 ch4.out.q).mono ?_); rintro e w' ⟨rfl, rfl⟩) | (go_at_call 21; refine (room_any w.heap.size r room bs w3 ch4.out.q).mono ?_; rintro e w' ⟨rfl, q4, rfl⟩) | (go_at_call 20; refine (len_any w.heap.size r room bs _ (ch4.out.drewN q4).q).mono ?_; rintro e w' ⟨rfl, rfl⟩))
          go_roundw
          case rel => exact ⟨k + 1, sin, sout, by omega, by go_num, rfl, rfl, r, bs, hio4.out, hsz4.out, ch4.out.drewN q4⟩
          case measure => simp [intOf]; omega
      · have tnil := fun W => run_convert_bytes_nil (P := Tryd.prog) W 30 5 Tryd.underlying30 Tryd.underlying5 0 0 9 Tryd.underlying9
        have hp' : d.what < 0 ∨ 0 ≤ d.what ∧ 3 ≤ d.what := by omega
        clear hp
        have hso : sout.size + bs.length ≤ 18000 := by have := congrArg List.length hio'.out; rw [List.length_append, ← bytes_len, ← bytes_len] at this; omega
        rcases hp' with hp | ⟨hp0, hp3⟩
        all_goals
          by_cases hn0 : d.n < 0
          · have htk := Lib.hid (take_no (some ⟨w.heap.size, 0, none⟩) d.n 2 (.inr rfl) wr (asked_neg w.heap.size d.n wr hch'.out.q.c4 hn0)).1
            have ch4 := Lib.hid hch'.out
            clear hch'
            go_wp2_with (first | (go_at_call 15; refine htk.out.mono ?_; rintro e w' ⟨rfl, rfl⟩) | fail)
            have hio4 := Lib.hid hio'.out
            have hsz4 : Hid (sin.size ≤ 300 * (k + 1)) := by show _ ≤ _; omega
            clear htk
            have hl4 := ch4.out.q.small
            have hlen4 : bs.length ≤ room := hl4.1
            have hg1 : decide ((room : Int) < (bs.length : Int)) = false := by rw [decide_eq_false_iff_not]; omega
            have hg2 : ((bs.length : Int) + ((room - bs.length : Nat) : Int) != (room : Int)) = false := by rw [bne_eq_false_iff_eq]; omega
            have hsz5 : sin.size = sout.size + bs.length := by rw [bytes_len, bytes_len, hio4.out, List.length_append]
            have hg3 : ((sin.size : Int) != (sout.size : Int) + (bs.length : Int)) = false := by rw [bne_eq_false_iff_eq]; omega
            have hsz6 : sin.size ≤ 18000 := by have := hsz4.out; omega
            have hsz7 : sout.size ≤ 18000 := by omega
            clear hsz5 hl4
            refine (len_any w.heap.size r room bs wr ch4.out.q).mono ?_
            rintro e w' ⟨rfl, rfl⟩
            go_wp2_with (first | (go_at_call 20; (with_reducible refine (len_any w.heap.size r room bs wr ch4.out.q).mono ?_); rintro e w' ⟨rfl, rfl⟩) | (go_at_call 21; refine (room_any w.heap.size r room bs wr ch4.out.q).mono ?_; rintro e w' ⟨rfl, q4, rfl⟩) | (go_at_call 20; refine (len_any w.heap.size r room bs _ (ch4.out.drewN q4).q).mono ?_; rintro e w' ⟨rfl, rfl⟩))
            go_roundw
            case rel => exact ⟨k + 1, sin, sout, by omega, by go_num, rfl, rfl, r, bs, hio4.out, hsz4.out, ch4.out.drewN q4⟩
            case measure => simp [intOf]; omega
          · obtain ⟨x4, hx4⟩ : ∃ x, bs.take d.n.toNat = x := ⟨_, rfl⟩
            obtain ⟨y4, hy4⟩ : ∃ y, bs.drop d.n.toNat = y := ⟨_, rfl⟩
            obtain ⟨m4, hm4⟩ : ∃ m, x4.length = m := ⟨_, rfl⟩
            have htk := Lib.hid (take_chain d.n x4 y4 m4 hch'.out (by omega) hx4 hy4 hm4)
            have hxy : Hid (bs = x4 ++ y4) := by show _ = _; rw [← hx4, ← hy4, List.take_append_drop]
            have htl : (⟨x4.toArray⟩ : ByteArray).size ≤ bs.length := by rw [bytes_len, hxy.out]; show x4.length ≤ _; simp
            have hm4' := Lib.hid hm4
            clear hch' hx4 hy4 hm4
            go_wp2_with fail
            refine htk.out.mono ?_
            rintro e w3 ⟨b3, rfl, ch3, a3, hb3, hT3⟩
            have tx := a3.text m4 m4 hm4'.out.symm
            have ch4 := Lib.hid ch3
            clear htk ch3 a3 hb3 hT3
            go_wp2_with fail
            generalize hs4 : sout ++ (⟨x4.toArray⟩ : ByteArray) = sout4 at ⊢
            have hio4 : Hid (sin.data.toList = sout4.data.toList ++ y4) := by show _ = _; rw [← hs4, bytes_append, hio'.out, hxy.out]; simp
            have hsz4 : Hid (sin.size ≤ 300 * (k + 1)) := by show _ ≤ _; omega
            clear hs4 tx htl
            have hl4 := ch4.out.q.small
            have hlen4 : y4.length ≤ room := hl4.1
            have hg1 : decide ((room : Int) < (y4.length : Int)) = false := by rw [decide_eq_false_iff_not]; omega
            have hg2 : ((y4.length : Int) + ((room - y4.length : Nat) : Int) != (room : Int)) = false := by rw [bne_eq_false_iff_eq]; omega
            have hsz5 : sin.size = sout4.size + y4.length := by rw [bytes_len, bytes_len, hio4.out, List.length_append]
            have hg3 : ((sin.size : Int) != (sout4.size : Int) + (y4.length : Int)) = false := by rw [bne_eq_false_iff_eq]; omega
            have hsz6 : sin.size ≤ 18000 := by have := hsz4.out; omega
            have hsz7 : sout4.size ≤ 18000 := by omega
            clear hsz5 hl4
            refine (len_any w.heap.size r room y4 w3 ch4.out.q).mono ?_
            rintro e w' ⟨rfl, rfl⟩
            go_wp2_with (first | (go_at_call 20; (with_reducible refine (len_any w.heap.size r room y4 w3 ch4.out.q).mono ?_); rintro e w' ⟨rfl, rfl⟩) | (go_at_call 21; refine (room_any w.heap.size r room y4 w3 ch4.out.q).mono ?_; rintro e w' ⟨rfl, q4, rfl⟩) | (go_at_call 20; refine (len_any w.heap.size r room y4 _ (ch4.out.drewN q4).q).mono ?_; rintro e w' ⟨rfl, rfl⟩))
            go_roundw
            case rel => exact ⟨k + 1, sin, sout4, by omega, by go_num, rfl, rfl, r, y4, hio4.out, hsz4.out, ch4.out.drewN q4⟩
            case measure => simp [intOf]; omega
    · obtain rfl : k = n := by omega
      have htk := Lib.hid (take_chain (room : Int) bs [] bs.length hch'.out h0 (by rw [Int.toNat_natCast]; exact List.take_of_length_le hch'.out.q.small.1) (by rw [Int.toNat_natCast]; exact List.drop_eq_nil_of_le hch'.out.q.small.1) rfl)
      have hso : sout.size + bs.length ≤ 18000 := by have := congrArg List.length hio'.out; rw [List.length_append, ← bytes_len, ← bytes_len] at this; omega
      have heq := Lib.hid (bytes_ext (a := sout ++ ⟨bs.toArray⟩) (b := sin) (by rw [bytes_append, hio'.out]))
      clear hch'
      go_wp2_with fail
      refine htk.out.mono ?_
      rintro e w3 ⟨b3, rfl, ch3, a3, hb3, hT3⟩
      have tx := a3.text _ bs.length rfl
      have htl : (⟨bs.toArray⟩ : ByteArray).size ≤ bs.length := by rw [bytes_len]; exact Nat.le_refl _
      have ch4 := Lib.hid ch3
      have heq' := heq.out
      clear htk ch3 a3 hb3 hT3 heq
      go_wp2_with (first | (go_at_call 10; refine (num_any _ _).mono ?_; rintro e w' ⟨rfl, rfl⟩) | (go_at_call 8; refine (works_any _ (hT'.out.below ch4.out.b hT'.out.lt)).mono ?_; rintro e w5 ⟨rfl, hb⟩))
      go_ret
      exact ⟨rfl, ch4.out.b.trans (hb.mono ch4.out.b.size)⟩
end Go.Proofs.YtnpifkbndpgabaaDoor
