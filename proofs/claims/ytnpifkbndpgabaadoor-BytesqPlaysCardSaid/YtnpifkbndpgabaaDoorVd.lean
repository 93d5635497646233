import Derived.Test.YtnpifkbndpgabaaDoorVc
namespace Go.Proofs.YtnpifkbndpgabaaDoor
open Go.RowKit

theorem act_pl {w wr W : World} {wb room g r : Nat} {l : List UInt8} {PA : Option Addr} {pc : Nat} {d : Deed} (h : Pl w wb room g r l PA pc wr) (hb : Below wr.heap.size wr W) (hd : DeedOk w (· < w.heap.size) d) (hsum : d.a.l.length + d.b.l.length ≤ 300) :
    Calls Tryd.prog 11 #[.pointer (some ⟨g, 0, none⟩), .agg #[.slice PA l.length pc, .int .i64 (room : Int)], .agg #[.int .i64 d.what, .int .i64 d.n, .slice d.a.A d.a.l.length d.a.c, .slice d.b.A d.b.l.length d.b.c]] W (Acted g r room W) := by
  have h2 := h.below hb
  have hS : ∀ k, k < w.heap.size → Off W g r k := fun k hk => by
    have := h2.ch.b.size; have := h2.ch.gge; have := h2.ch.rge
    exact ⟨by omega, by omega, by omega⟩
  have hk : Kept (· < w.heap.size) w W := fun k hk => h2.ch.b.block k hk
  have := act_any d g r room l PA pc W h2.ch.q h2.ch.lt (h2.fine.mono (fun _ hk => hk.1)) ⟨⟨(hd.1.1.kept hk).mono hS, hd.1.2⟩, ⟨(hd.2.1.1.kept hk).mono hS, hd.2.1.2⟩, hd.2.2⟩ hsum
  simpa only [refVal, Part.val] using this
theorem turn_from {g r : Nat} {a b c : World} (h : Below a.heap.size a b) (k : Turn g r b c) : Turn g r a c := (turn_of_below h).trans k (.inl rfl)
set_option maxRecDepth 100000 in
set_option maxHeartbeats 4000000 in
theorem lawPlays (room n : Nat) (A : Option Addr) (c : Nat) (ds : List Deed) (w : World) (hds : Deeds w (· < w.heap.size) A ds) (hn : n = ds.length) (hT : Tab w) (hfew : fewB 50 ds = true) (hroom : room ≤ 1048576) :
    Calls Tryd.prog 3 #[.int .i64 (room : Int), .slice A n c] w fun e w' => e = .returned (.bool true) ∧ Below w.heap.size w w' := by
  have hfw := of_decide_eq_true hfew
  have hl : n ≤ 50 := by have := hfw.1; omega
  have hall := Lib.hid hfw.2
  have hf := few_any A (· < w.heap.size) ds n c 50 w hds hn (by omega) (by omega)
  rw [hfew] at hf
  have hf' := Lib.hid hf
  have hT' := Lib.hid hT
  have hds' := Lib.hid hds
  have hn' := Lib.hid hn
  have h0 : (0 : Int) ≤ (room : Int) := by omega
  have h1 : (room : Int) ≤ 1048576 := by omega
  clear hds hT hfew hfw hn hf
  go_enter Tryd.func3, Tryd.ntmps3
  go_wp2_with (first | (go_at_call 7; refine hf'.out.mono ?_; rintro e w1 ⟨rfl, q, rfl⟩) | fail)
  refine (new_ok room (w.drewN q) (hT'.out.below (below_draws (Below.refl _ _) q) hT'.out.lt) hroom).mono ?_
  intro e w1 hm
  obtain rfl := hm.1
  have ch1 : Hid (Chain w w.heap.size w.heap.size room [] w1) := hm.chain (below_draws (Below.refl w.heap.size w) q)
  have hz1 : Hid (w.heap.size < w1.heap.size) := ch1.out.lt
  clear hm hf'
  go_wp2
  have hpl0 : Hid (Pl w w1.heap.size room w.heap.size w.heap.size [] none 0 (w1.alloc (.cells #[.slice none 0 0, .int .i64 (room : Int)] 32))) := by
    have := hz1.out
    exact ⟨ch1.out.below ((Below.refl _ _).alloc (Nat.le_refl _) _), ⟨Rd.nil _ _ _, Nat.le_refl _, by simp⟩, Has.new _ _ _, by omega, by omega, by omega⟩
  have hwb := Lib.hid (show w.heap.size < w1.heap.size from hz1.out)
  generalize w1.heap.size = wb at hpl0 hwb ⊢
  go_loopw [5, 8] (fun x i wr => ∃ (k g r : Nat) (l : List UInt8) (PA : Option Addr) (pc : Nat), k ≤ n ∧ x = .pointer (some ⟨g, 0, none⟩) ∧ i = .int .i64 k ∧ Pl w wb room g r l PA pc wr) (fun _ i _ => n - (intOf i).toNat)
  case atStart => exact ⟨0, _, _, _, _, _, Nat.zero_le _, rfl, rfl, hpl0.out⟩
  case round =>
    obtain ⟨k, g, r, l, PA, pc, hk, rfl, rfl, hpl⟩ := hrel
    have hpl' := Lib.hid hpl
    clear hpl hpl0 ch1
    by_cases hlt : k < n
    · have hkl : k < ds.length := by have := hn'.out; omega
      obtain ⟨b, o, rfl, hS, hc⟩ := hds'.out.1 (by omega)
      obtain ⟨hcw, hcn, hca, hcb⟩ := hc k _ (List.getElem?_eq_getElem hkl)
      have hok := hds'.out.2 _ (List.getElem_mem hkl)
      have hsum := hall.out _ (List.getElem_mem hkl)
      generalize ds[k] = d at hcw hcn hca hcb hok hsum
      have hSW : Hid (∀ W', Has W' wb 32 #[.slice PA l.length pc, .int .i64 (room : Int)] → Below w.heap.size w W' → (W'.cell? ⟨wb, 0, none⟩ = some (.slice PA l.length pc) ∧ W'.cell? ⟨wb, 1, none⟩ = some (.int .i64 (room : Int)) ∧ W'.cell? ⟨b, o + k * 4, none⟩ = some (.int .i64 d.what) ∧ W'.cell? ⟨b, o + k * 4 + 1, none⟩ = some (.int .i64 d.n) ∧ W'.cell? ⟨b, o + k * 4 + 2, none⟩ = some (.slice d.a.A d.a.l.length d.a.c) ∧ W'.cell? ⟨b, o + k * 4 + 3, none⟩ = some (.slice d.b.A d.b.l.length d.b.c))) := fun W' h1 h2 =>
        ⟨h1.cell 0, h1.cell 1, (h2.cell (p := ⟨b, o + k * 4, none⟩) hS).trans hcw, (h2.cell (p := ⟨b, o + k * 4 + 1, none⟩) hS).trans hcn, (h2.cell (p := ⟨b, o + k * 4 + 2, none⟩) hS).trans hca, (h2.cell (p := ⟨b, o + k * 4 + 3, none⟩) hS).trans hcb⟩
      have hb0 : Hid (Below wr.heap.size wr wr.drew) := (Below.refl _ _).drew
      have hb1 : Hid (Below wr.heap.size wr (wr.alloc (.cells #[.slice none 0 0, .int .i64 0] 32)).drew) := ((Below.refl _ _).alloc (Nat.le_refl _) _).drew
      have hact0 := Lib.hid (act_pl hpl'.out hb0.out hok hsum)
      have hact1 := Lib.hid (act_pl hpl'.out hb1.out hok hsum)
      have hzz : Hid ((wr.alloc (.cells #[.slice none 0 0, .int .i64 0] 32)).drew.heap.size = wr.heap.size + 1) := by show (wr.alloc _).heap.size = _; simp
      have hgl : Hid (g < wr.heap.size ∧ r < wr.heap.size ∧ wb < wr.heap.size ∧ w.heap.size ≤ wr.heap.size) := ⟨hpl'.out.ch.q.lt, hpl'.out.ch.lt, hpl'.out.box.lt, hpl'.out.ch.b.size⟩
      have e10 := hSW.out wr.drew hpl'.out.box (hpl'.out.ch.b.trans (hb0.out.mono hpl'.out.ch.b.size))
      have e11 := Lib.hid (hSW.out (wr.alloc (.cells #[.slice none 0 0, .int .i64 0] 32)).drew (hpl'.out.box.alloc _) (hpl'.out.ch.b.trans (hb1.out.mono hpl'.out.ch.b.size)))
      have hki : (0 : Int) ≤ (k : Int) := by omega
      have hkn : (k : Int) < (n : Int) := by omega
      clear hcw hcn hca hcb hok hsum hc hS hkl
      go_wp2
      go_cut [9, 10, 11] from 39 to 67 (fun s9 s10 s11 wx => ∃ g' r' l' PA' pc' zb, s9 = .pointer (some ⟨g', 0, none⟩) ∧ s10 = .pointer (some ⟨zb, 0, none⟩) ∧ s11 = .bool true ∧ Pm w wb zb room g' r' l' PA' pc' (.slice PA l.length pc) wx)
      case first =>
        go_region_held3 (fun w' => w'.cell? ⟨wb, 0, none⟩ = some (.slice PA l.length pc) ∧ w'.cell? ⟨wb, 1, none⟩ = some (.int .i64 (room : Int)) ∧ w'.cell? ⟨b, o + k * 4, none⟩ = some (.int .i64 d.what) ∧ w'.cell? ⟨b, o + k * 4 + 1, none⟩ = some (.int .i64 d.n) ∧ w'.cell? ⟨b, o + k * 4 + 2, none⟩ = some (.slice d.a.A d.a.l.length d.a.c) ∧ w'.cell? ⟨b, o + k * 4 + 3, none⟩ = some (.slice d.b.A d.b.l.length d.b.c))
          (first | exact e10 | exact hS3.out | exact e11.out | exact hSW.out _ (hbx4.out.alloc _) (hB4.out.alloc hB4.out.size _) | exact hSW.out _ ((hbx4.out.other (by have := hgl.out; omega) _).other (by have := hgl.out; omega) _) ((hB4.out.setCell (by have := hgl.out; simp; omega) _).setCell (by have := hgl.out; simp; omega) _))
          (first
         | (go_at_call 11; refine hact0.out.mono ?_; rintro e w3 ⟨g', r', l', ⟨PA', pl, pc'⟩, he, hQ3, hr3, hpl3, hF3, hT3, hgr⟩
            simp only [refVal] at he
            simp only at hpl3
            subst hpl3
            subst he
            have hT4 := Lib.hid (turn_from hb0.out hT3)
            have hB4 := Lib.hid (hpl'.out.ch.b.trans (hT4.out.below hpl'.out.ch.gge hpl'.out.ch.rge hpl'.out.ch.b.size))
            have hbx4 : Hid (Has w3 wb _ _) := (hT4.out.block wb hpl'.out.box.lt hpl'.out.neg hpl'.out.ner).trans hpl'.out.box
            have hS3 := Lib.hid (hSW.out w3 hbx4.out hB4.out)
            have hQ3' := Lib.hid hQ3
            have hF3' := Lib.hid hF3
            have hr3' := Lib.hid hr3
            have hgr' : Hid ((g' = g ∧ (r' = r ∨ wr.drew.heap.size ≤ r')) ∨ (wr.drew.heap.size ≤ g' ∧ wr.drew.heap.size ≤ r')) := hgr
            have hsz0 : Hid (wr.drew.heap.size ≤ w3.heap.size) := hT3.size
            clear hQ3 hr3 hF3 hT3 hgr)
         | (go_at_call 11; refine hact1.out.mono ?_; rintro e w3 ⟨g', r', l', ⟨PA', pl, pc'⟩, he, hQ3, hr3, hpl3, hF3, hT3, hgr⟩
            simp only [refVal] at he
            simp only at hpl3
            subst hpl3
            subst he
            have hT4 := Lib.hid (turn_from hb1.out hT3)
            have hB4 := Lib.hid (hpl'.out.ch.b.trans (hT4.out.below hpl'.out.ch.gge hpl'.out.ch.rge hpl'.out.ch.b.size))
            have hbx4 : Hid (Has w3 wb _ _) := (hT4.out.block wb hpl'.out.box.lt hpl'.out.neg hpl'.out.ner).trans hpl'.out.box
            have hS3 := Lib.hid (hSW.out w3 hbx4.out hB4.out)
            have hzb : Hid (Has w3 wr.heap.size 32 #[.slice none 0 0, .int .i64 0]) := (hT3.block wr.heap.size (by have := hzz.out; omega) (by have := hgl.out; omega) (by have := hgl.out; omega)).trans (Has.new wr _ _)
            have d0 : w3.cell? ⟨wr.heap.size, 0, none⟩ = some (.slice none 0 0) := hzb.out.cell 0
            have d1 : w3.cell? ⟨wr.heap.size, 1, none⟩ = some (.int .i64 0) := hzb.out.cell 1
            have f0 : w3.frozen? ⟨wr.heap.size, 0, none⟩ = false := hzb.out.free 0
            have f1 : w3.frozen? ⟨wr.heap.size, 1, none⟩ = false := hzb.out.free 1
            have hQ3' := Lib.hid hQ3
            have hF3' := Lib.hid hF3
            have hr3' := Lib.hid hr3
            have hgr' : Hid ((g' = g ∧ (r' = r ∨ (wr.alloc (.cells #[.slice none 0 0, .int .i64 0] 32)).drew.heap.size ≤ r')) ∨ ((wr.alloc (.cells #[.slice none 0 0, .int .i64 0] 32)).drew.heap.size ≤ g' ∧ (wr.alloc (.cells #[.slice none 0 0, .int .i64 0] 32)).drew.heap.size ≤ r')) := hgr
            have hsz1 : Hid ((wr.alloc (.cells #[.slice none 0 0, .int .i64 0] 32)).drew.heap.size ≤ w3.heap.size) := hT3.size
            clear hQ3 hr3 hF3 hT3 hgr)
         | fail)
        all_goals
          go_wp2
          go_meet
          case rel =>
            have h1 := hgl.out
            have h2 := hr3'.out
            have h3 := hgr'.out
            have h4 := hQ3'.out.lt
            have hzz1 := hzz.out
            have hd0 : wr.drew.heap.size = wr.heap.size := rfl
            first
              | (have h5 := hsz1.out
                 have ho := (only_setCell wr.heap.size 0 w3 (.slice PA' pl.length pc')).trans (only_setCell wr.heap.size 1 _ (.int .i64 (room : Int)))
                 exact ⟨g', r', pl, PA', pc', wr.heap.size, rfl, rfl, rfl, pm_of hpl'.out hT4.out hQ3'.out h2 hF3'.out (by omega) ((hzb.out.put 0 _).put 1 _) (by omega) (fun k _ hk => ho.block k hk) (Nat.le_of_eq ho.size.symm) ⟨ho.os, ho.tape, ho.output⟩ ⟨by omega, by omega⟩ (by omega) (.inl hzb.out)⟩)
              | (have h5 := hsz0.out
                 exact ⟨g', r', pl, PA', pc', w3.heap.size, rfl, rfl, rfl, pm_of (A := none) (n := 0) (c := 0) hpl'.out hT4.out hQ3'.out h2 hF3'.out (by omega) (Has.new _ _ _) (by omega) (fun k hk _ => Below.heap_alloc _ _ _ hk) (by simp) ⟨rfl, rfl, rfl⟩ ⟨by omega, by omega⟩ (by omega) (.inr (Nat.le_refl _))⟩)
      case rest =>
        obtain ⟨g', r', l', PA', pc', zb, rfl, rfl, rfl, hpm⟩ := hcut
        have e0 : wc.drew.cell? ⟨zb, 0, none⟩ = some (.slice PA' l'.length pc') := hpm.box.cell 0
        have e1 : wc.drew.cell? ⟨zb, 1, none⟩ = some (.int .i64 (room : Int)) := hpm.box.cell 1
        have d0 : wc.cell? ⟨wb, 0, none⟩ = some (.slice PA l.length pc) := hpm.old.cell 0
        have d1 : wc.cell? ⟨wb, 1, none⟩ = some (.int .i64 (room : Int)) := hpm.old.cell 1
        have f0 : wc.frozen? ⟨wb, 0, none⟩ = false := hpm.old.free 0
        have f1 : wc.frozen? ⟨wb, 1, none⟩ = false := hpm.old.free 1
        have hne := hpm.ne
        have hpl2 := Lib.hid hpm.done
        clear hpm e10 e11 hact0 hact1
        go_wp2
        go_region_held3 (fun w' => w'.cell? ⟨zb, 0, none⟩ = some (.slice PA' l'.length pc') ∧ w'.cell? ⟨zb, 1, none⟩ = some (.int .i64 (room : Int)))
          (first | exact ⟨e0, e1⟩ | exact ⟨(World.cell?_of_block (a := ⟨zb, 0, none⟩) (((only_setCell wb 0 _ _).trans (only_setCell wb 1 _ _)).block zb hne)).trans e0, (World.cell?_of_block (a := ⟨zb, 1, none⟩) (((only_setCell wb 0 _ _).trans (only_setCell wb 1 _ _)).block zb hne)).trans e1⟩)
          (fail)
        all_goals
          have hpl3 : Hid (Pl w wb room g' r' l' PA' pc' ((wc.setCell ⟨wb, 0, none⟩ (.slice PA' l'.length pc')).setCell ⟨wb, 1, none⟩ (.int .i64 (room : Int))).drew) := hpl2.out.below (Below.refl _ _).drew
          generalize ((wc.setCell ⟨wb, 0, none⟩ (.slice PA' l'.length pc')).setCell ⟨wb, 1, none⟩ (.int .i64 (room : Int))).drew = wy at hpl3 ⊢
          have c0 : wy.cell? ⟨wb, 0, none⟩ = some (.slice PA' l'.length pc') := hpl3.out.box.cell 0
          have c1 : wy.cell? ⟨wb, 1, none⟩ = some (.int .i64 (room : Int)) := hpl3.out.box.cell 1
          have his := is_any g' r' room l' PA' pc' (fun k => Off wy g' r' k ∧ k ≠ wb) (k % 4) wy hpl3.out.ch.q hpl3.out.fine (fun k hk => hk.1.1) (by omega)
          simp only [refVal] at his
          have his' := Lib.hid his
          have hrem : (k : Int).tmod 4 = ((k % 4 : Nat) : Int) := by rw [Int.tmod_eq_emod_of_nonneg (by omega)]; omega
          clear his hpl2
          go_wp2_with (go_at_call 12; refine his'.out.mono ?_; rintro e w4 ⟨rfl, hB5⟩; have hpl4 := Lib.hid (hpl3.out.below hB5); clear hB5)
          go_roundw
          case rel => exact ⟨k + 1, g', r', l', PA', pc', by omega, rfl, by go_num, hpl4.out⟩
          case measure => simp [intOf]; omega
    · obtain rfl : k = n := by omega
      have hp := hpl'.out
      have his := is_any g r room l PA pc (fun k => Off wr g r k ∧ k ≠ wb) 99999 wr hp.ch.q hp.fine (fun k hk => hk.1.1) (by omega)
      simp only [refVal] at his
      have his' := Lib.hid his
      have e0 : wr.cell? ⟨wb, 0, none⟩ = some (.slice PA l.length pc) := hp.box.cell 0
      have e1 : wr.cell? ⟨wb, 1, none⟩ = some (.int .i64 (room : Int)) := hp.box.cell 1
      clear his hp
      go_wp2_with (first | (go_at_call 10; refine (num_any _ _).mono ?_; rintro e w' ⟨rfl, rfl⟩) | (go_at_call 12; refine his'.out.mono ?_; rintro e w3 ⟨rfl, hB3⟩; have hB3' := Lib.hid (hpl'.out.ch.b.trans (hB3.mono hpl'.out.ch.b.size)); clear hB3) | (go_at_call 8; refine (works_any _ (hT'.out.below hB3'.out hT'.out.lt)).mono ?_; rintro e w5 ⟨rfl, hb⟩))
      go_ret
      exact ⟨rfl, hB3'.out.trans (hb.mono hB3'.out.size)⟩
end Go.Proofs.YtnpifkbndpgabaaDoor
