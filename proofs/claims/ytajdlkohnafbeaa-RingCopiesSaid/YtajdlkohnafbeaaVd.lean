import Derived.Test.YtajdlkohnafbeaaVa
import Derived.Test.YtajdlkohnafbeaaVc
import Derived.Deep.CutRange
namespace Go.Proofs.Ytajdlkohnafbeaa
open Go.RowKit

theorem is_pl {w W : World} {wb most g r first : Nat} {l : List Int} {PA : Option Addr} {pc : Nat} (h : Pl w wb most g r first l PA pc W) (i many : Nat) (hi : i ≤ 18446744073709551615) (hm : many ≤ 9999) :
    Calls Try.prog 12 #[.pointer (some ⟨g, 0, none⟩), .agg #[.slice PA l.length pc, .int .u64 (first : Int), .int .i64 (most : Int)], .int .u64 (i : Int), .int .i64 (many : Int)] W fun e w' => e = .returned (.bool true) ∧ Pl w wb most g r first l PA pc w' :=
  (is_any g r most first l l.length PA pc i many (OffX (· = wb) W g r) W h.ch.q rfl h.fine (fun _ hk => hk.1) hi hm).mono fun _ _ hx => ⟨hx.1, h.below hx.2⟩
set_option maxRecDepth 100000 in
set_option maxHeartbeats 4000000 in
theorem lawPlays (most first n : Nat) (A : Option Addr) (c : Nat) (ds : List Deed) (w : World) (hds : Deeds w A ds) (hn : n = ds.length) (hl : n ≤ 50) (h1 : 1 ≤ most) (h2 : most ≤ 4096) (hf : first ≤ 18446744073709551615) :
    Calls Try.prog 3 #[.int .i64 (most : Int), .int .u64 (first : Int), .slice A n c] w fun e w' => e = .returned (.bool true) ∧ Below w.heap.size w w' := by
  have d1 : decide ((50 : Int) < (n : Int)) = false := decide_eq_false (by omega)
  have hf' := Lib.hid hf
  have hds' := Lib.hid hds
  have hn' := Lib.hid hn
  clear hf hds hn
  go_enter Try.func3, Try.ntmps3
  go_wp2_with fail
  refine (new_ok most first w h1 h2 hf'.out).mono ?_
  rintro e w1 ⟨g, r, rfl, hR, hg, hr, hB⟩
  have ch1 : Hid (Chain w g r most first [] w1) := ⟨hR, hg, hr, hB⟩
  clear hR hg hr hB
  go_wp2_with fail
  refine (refNew_ok most first w1 h1 h2).mono ?_
  rintro e w2 ⟨rfl, hB2⟩
  have ch2 := Lib.hid (ch1.out.below hB2)
  clear hB2 ch1
  unfold rv
  go_wp2_with (first | (go_at_call 10; refine (num_any _ _).mono ?_; rintro e w' ⟨rfl, rfl⟩) | fail)
  have hpl0 : Hid (Pl w w2.heap.size most g r first [] none 0 (w2.alloc (.cells #[.slice none 0 0, .int .u64 (first : Int), .int .i64 (most : Int)] 31))) := by
    have h3 := ch2.out.q.lt
    have h4 := ch2.out.b.size
    exact ⟨ch2.out.below ((Below.refl _ _).alloc (Nat.le_refl _) _), ⟨fun h => absurd h (by simp), Nat.le_refl _, by simp⟩, Has.new _ _ _, h4, by omega, by omega⟩
  clear ch2
  generalize w2.heap.size = wb at hpl0 ⊢
  go_loopw [7, 11] (fun x i wr => ∃ (k g r first : Nat) (l : List Int) (PA : Option Addr) (pc : Nat), k ≤ n ∧ x = .pointer (some ⟨g, 0, none⟩) ∧ i = .int .i64 k ∧ Pl w wb most g r first l PA pc wr) (fun _ i _ => n - (intOf i).toNat)
  case atStart => exact ⟨0, _, _, _, _, _, _, Nat.zero_le _, rfl, rfl, hpl0.out⟩
  case round =>
    obtain ⟨k, g, r, first, l, PA, pc, hk, rfl, rfl, hpl⟩ := hrel
    have hpl' := Lib.hid hpl
    clear hpl hpl0 hf'
    by_cases hlt : k < n
    · have hkl : k < ds.length := by have := hn'.out; omega
      obtain ⟨b, o, rfl, hS, hc⟩ := hds'.out (by omega)
      obtain ⟨hcw, hcv, hcf⟩ := hc k _ (List.getElem?_eq_getElem hkl)
      generalize ds[k] = d at hcw hcv hcf
      have hSW : Hid (∀ W', Has W' wb 31 #[.slice PA l.length pc, .int .u64 (first : Int), .int .i64 (most : Int)] → Below w.heap.size w W' → (W'.cell? ⟨wb, 0, none⟩ = some (.slice PA l.length pc) ∧ W'.cell? ⟨wb, 1, none⟩ = some (.int .u64 (first : Int)) ∧ W'.cell? ⟨wb, 2, none⟩ = some (.int .i64 (most : Int)) ∧ W'.cell? ⟨b, o + k * 3, none⟩ = some (.int .i64 d.what) ∧ W'.cell? ⟨b, o + k * 3 + 1, none⟩ = some (.int .i64 d.val) ∧ W'.cell? ⟨b, o + k * 3 + 2, none⟩ = some (.int .u64 (d.far : Int)))) := fun W' h1 h2 =>
        ⟨h1.cell 0, h1.cell 1, h1.cell 2, (h2.cell (p := ⟨b, o + k * 3, none⟩) hS).trans hcw, (h2.cell (p := ⟨b, o + k * 3 + 1, none⟩) hS).trans hcv, (h2.cell (p := ⟨b, o + k * 3 + 2, none⟩) hS).trans hcf⟩
      have hfar : Hid (∀ W', Below w.heap.size w W' → W'.cell? ⟨b, o + k * 3 + 2, none⟩ = some (.int .u64 (d.far : Int))) := fun W' h2 => (h2.cell (p := ⟨b, o + k * 3 + 2, none⟩) hS).trans hcf
      have hb0 : Hid (Below wr.heap.size wr wr.drew) := (Below.refl _ _).drew
      have hb1 : Hid (Below wr.heap.size wr (wr.alloc (.cells #[.slice none 0 0, .int .u64 0, .int .i64 0] 31)).drew) := ((Below.refl _ _).alloc (Nat.le_refl _) _).drew
      have hzz : Hid ((wr.alloc (.cells #[.slice none 0 0, .int .u64 0, .int .i64 0] 31)).drew.heap.size = wr.heap.size + 1) := by show (wr.alloc _).heap.size = _; simp
      have hgl : Hid (g < wr.heap.size ∧ r < wr.heap.size ∧ wb < wr.heap.size ∧ w.heap.size ≤ wr.heap.size) := ⟨hpl'.out.ch.q.lt.1, hpl'.out.ch.q.lt.2, hpl'.out.box.lt, hpl'.out.ch.b.size⟩
      have hact0 := Lib.hid (act_pl (· = wb) d hpl'.out hb0.out (fun k hk => by have := hgl.out; have h3 : wr.drew.heap.size = wr.heap.size := rfl; omega) (fun k _ hne he => hne he))
      have hact1 := Lib.hid (act_pl (fun k => k = wb ∨ k = wr.heap.size) d hpl'.out hb1.out (fun k hk => by have := hgl.out; have h3 := hzz.out; omega) (fun k hk hne he => by omega))
      have e10 := hSW.out wr.drew hpl'.out.box (hpl'.out.ch.b.trans (hb0.out.mono hpl'.out.ch.b.size))
      have e11 := Lib.hid (hSW.out (wr.alloc (.cells #[.slice none 0 0, .int .u64 0, .int .i64 0] 31)).drew (hpl'.out.box.alloc _) (hpl'.out.ch.b.trans (hb1.out.mono hpl'.out.ch.b.size)))
      have hki : (0 : Int) ≤ (k : Int) := by omega
      have hkn : (k : Int) < (n : Int) := by omega
      clear hcw hcv hcf hc hS hkl
      go_wp2
      go_cut [12, 13, 14] from 52 to 96 (fun s12 s13 s14 wx => ∃ g' r' first' l' PA' pc' zb, s12 = .pointer (some ⟨g', 0, none⟩) ∧ s13 = .pointer (some ⟨zb, 0, none⟩) ∧ s14 = .bool true ∧ Pm w wb zb most g' r' first' l' PA' pc' (.slice PA l.length pc) (.int .u64 (first : Int)) wx)
      case first =>
        go_region_held3 (fun w' => w'.cell? ⟨wb, 0, none⟩ = some (.slice PA l.length pc) ∧ w'.cell? ⟨wb, 1, none⟩ = some (.int .u64 (first : Int)) ∧ w'.cell? ⟨wb, 2, none⟩ = some (.int .i64 (most : Int)) ∧ w'.cell? ⟨b, o + k * 3, none⟩ = some (.int .i64 d.what) ∧ w'.cell? ⟨b, o + k * 3 + 1, none⟩ = some (.int .i64 d.val) ∧ w'.cell? ⟨b, o + k * 3 + 2, none⟩ = some (.int .u64 (d.far : Int)))
          (first | exact e10 | exact hS3.out | exact e11.out | exact hSW.out _ (hbx4.out.alloc _) (hB4.out.alloc hB4.out.size _) | exact hSW.out _ (((hbx4.out.other (by have := hgl.out; omega) _).other (by have := hgl.out; omega) _).other (by have := hgl.out; omega) _) (((hB4.out.setCell (by have := hgl.out; simp; omega) _).setCell (by have := hgl.out; simp; omega) _).setCell (by have := hgl.out; simp; omega) _))
          (first
         | (go_at_call 11; refine hact0.out.mono ?_; rintro e w3 ⟨g', r', first', l', PA', pc', he, hQ3, hF3, hT3, hgr⟩
            simp only [rv] at he
            subst he
            have hT4 := Lib.hid (turn_from hb0.out hT3)
            have hB4 := Lib.hid (hpl'.out.ch.b.trans (hT4.out.below hpl'.out.ch.gge hpl'.out.ch.rge hpl'.out.ch.b.size))
            have hbx4 : Hid (Has w3 wb _ _) := (hT4.out.block wb hpl'.out.box.lt hpl'.out.neg hpl'.out.ner).trans hpl'.out.box
            have hS3 := Lib.hid (hSW.out w3 hbx4.out hB4.out)
            have hQ3' := Lib.hid hQ3
            have hF3' := Lib.hid hF3
            have hgr' : Hid ((g' = g ∧ r' = r) ∨ (wr.drew.heap.size ≤ g' ∧ wr.drew.heap.size ≤ r')) := hgr
            have hsz0 : Hid (wr.drew.heap.size ≤ w3.heap.size) := hT3.size
            clear hQ3 hF3 hT3 hgr)
         | (go_at_call 11; refine hact1.out.mono ?_; rintro e w3 ⟨g', r', first', l', PA', pc', he, hQ3, hF3, hT3, hgr⟩
            simp only [rv] at he
            subst he
            have hT4 := Lib.hid (turn_from hb1.out hT3)
            have hB4 := Lib.hid (hpl'.out.ch.b.trans (hT4.out.below hpl'.out.ch.gge hpl'.out.ch.rge hpl'.out.ch.b.size))
            have hbx4 : Hid (Has w3 wb _ _) := (hT4.out.block wb hpl'.out.box.lt hpl'.out.neg hpl'.out.ner).trans hpl'.out.box
            have hS3 := Lib.hid (hSW.out w3 hbx4.out hB4.out)
            have hzb : Hid (Has w3 wr.heap.size 31 #[.slice none 0 0, .int .u64 0, .int .i64 0]) := (hT3.block wr.heap.size (by have := hzz.out; omega) (by have := hgl.out; omega) (by have := hgl.out; omega)).trans (Has.new wr _ _)
            have d0 : w3.cell? ⟨wr.heap.size, 0, none⟩ = some (.slice none 0 0) := hzb.out.cell 0
            have d1 : w3.cell? ⟨wr.heap.size, 1, none⟩ = some (.int .u64 0) := hzb.out.cell 1
            have d2 : w3.cell? ⟨wr.heap.size, 2, none⟩ = some (.int .i64 0) := hzb.out.cell 2
            have f0 : w3.frozen? ⟨wr.heap.size, 0, none⟩ = false := hzb.out.free 0
            have f1 : w3.frozen? ⟨wr.heap.size, 1, none⟩ = false := hzb.out.free 1
            have f2 : w3.frozen? ⟨wr.heap.size, 2, none⟩ = false := hzb.out.free 2
            have hQ3' := Lib.hid hQ3
            have hF3' := Lib.hid hF3
            have hgr' : Hid ((g' = g ∧ r' = r) ∨ ((wr.alloc (.cells #[.slice none 0 0, .int .u64 0, .int .i64 0] 31)).drew.heap.size ≤ g' ∧ (wr.alloc (.cells #[.slice none 0 0, .int .u64 0, .int .i64 0] 31)).drew.heap.size ≤ r')) := hgr
            have hsz1 : Hid ((wr.alloc (.cells #[.slice none 0 0, .int .u64 0, .int .i64 0] 31)).drew.heap.size ≤ w3.heap.size) := hT3.size
            clear hQ3 hF3 hT3 hgr)
         | fail)
        all_goals
          go_wp2
          go_meet
          case rel =>
            have h1 := hgl.out
            have h3 := hgr'.out
            have h4 := hQ3'.out.lt
            have hzz1 := hzz.out
            have hd0 : wr.drew.heap.size = wr.heap.size := rfl
            first
              | (have h5 := hsz1.out
                 have ho := ((only_setCell wr.heap.size 0 w3 (.slice PA' l'.length pc')).trans (only_setCell wr.heap.size 1 _ (.int .u64 (first' : Int)))).trans (only_setCell wr.heap.size 2 _ (.int .i64 (most : Int)))
                 exact ⟨g', r', first', l', PA', pc', wr.heap.size, rfl, rfl, rfl, pm_of hpl'.out hT4.out hQ3'.out (hF3'.out.mono (fun k hk => ⟨⟨hk.1, hk.2.1, hk.2.2.1, fun e => hk.2.2.2 (.inl e)⟩, fun e => hk.2.2.2 (.inr e)⟩)) (by omega) (((hzb.out.put 0 _).put 1 _).put 2 _) (by omega) (fun k _ hk => ho.block k hk) (Nat.le_of_eq ho.size.symm) ⟨ho.os, ho.tape, ho.output⟩ ⟨by omega, by omega⟩ (by omega)⟩)
              | (have h5 := hsz0.out
                 exact ⟨g', r', first', l', PA', pc', w3.heap.size, rfl, rfl, rfl, pm_of hpl'.out hT4.out hQ3'.out (hF3'.out.mono (fun k hk => ⟨hk, by have := hk.1; omega⟩)) (by omega) (Has.new _ _ _) (by omega) (fun k hk _ => Below.heap_alloc _ _ _ hk) (by simp) ⟨rfl, rfl, rfl⟩ ⟨by omega, by omega⟩ (by omega)⟩)
      case rest =>
        obtain ⟨g', r', first', l', PA', pc', zb, rfl, rfl, rfl, hpm⟩ := hcut
        have e0 : wc.drew.cell? ⟨zb, 0, none⟩ = some (.slice PA' l'.length pc') := hpm.box.cell 0
        have e1 : wc.drew.cell? ⟨zb, 1, none⟩ = some (.int .u64 (first' : Int)) := hpm.box.cell 1
        have e2 : wc.drew.cell? ⟨zb, 2, none⟩ = some (.int .i64 (most : Int)) := hpm.box.cell 2
        have f0 : wc.frozen? ⟨wb, 0, none⟩ = false := hpm.old.free 0
        have f1 : wc.frozen? ⟨wb, 1, none⟩ = false := hpm.old.free 1
        have f2 : wc.frozen? ⟨wb, 2, none⟩ = false := hpm.old.free 2
        have d0 : wc.cell? ⟨wb, 0, none⟩ = some (.slice PA l.length pc) := hpm.old.cell 0
        have d1 : wc.cell? ⟨wb, 1, none⟩ = some (.int .u64 (first : Int)) := hpm.old.cell 1
        have d2 : wc.cell? ⟨wb, 2, none⟩ = some (.int .i64 (most : Int)) := hpm.old.cell 2
        have hne := hpm.ne
        have hpl2 := Lib.hid hpm.done
        clear hpm e10 e11 hact0 hact1
        go_wp2
        go_region_held3 (fun w' => w'.cell? ⟨zb, 0, none⟩ = some (.slice PA' l'.length pc') ∧ w'.cell? ⟨zb, 1, none⟩ = some (.int .u64 (first' : Int)) ∧ w'.cell? ⟨zb, 2, none⟩ = some (.int .i64 (most : Int)))
          (first | exact ⟨e0, e1, e2⟩ | exact ⟨(World.cell?_of_block (a := ⟨zb, 0, none⟩) ((((only_setCell wb 0 _ _).trans (only_setCell wb 1 _ _)).trans (only_setCell wb 2 _ _)).block zb hne)).trans e0, (World.cell?_of_block (a := ⟨zb, 1, none⟩) ((((only_setCell wb 0 _ _).trans (only_setCell wb 1 _ _)).trans (only_setCell wb 2 _ _)).block zb hne)).trans e1, (World.cell?_of_block (a := ⟨zb, 2, none⟩) ((((only_setCell wb 0 _ _).trans (only_setCell wb 1 _ _)).trans (only_setCell wb 2 _ _)).block zb hne)).trans e2⟩)
          (fail)
        all_goals
          have hpl3 : Hid (Pl w wb most g' r' first' l' PA' pc' (((wc.setCell ⟨wb, 0, none⟩ (.slice PA' l'.length pc')).setCell ⟨wb, 1, none⟩ (.int .u64 (first' : Int))).setCell ⟨wb, 2, none⟩ (.int .i64 (most : Int))).drew) := hpl2.out.below (Below.refl _ _).drew
          generalize (((wc.setCell ⟨wb, 0, none⟩ (.slice PA' l'.length pc')).setCell ⟨wb, 1, none⟩ (.int .u64 (first' : Int))).setCell ⟨wb, 2, none⟩ (.int .i64 (most : Int))).drew = wy at hpl3 ⊢
          have c0 : wy.cell? ⟨wb, 0, none⟩ = some (.slice PA' l'.length pc') := hpl3.out.box.cell 0
          have c1 : wy.cell? ⟨wb, 1, none⟩ = some (.int .u64 (first' : Int)) := hpl3.out.box.cell 1
          have c2 : wy.cell? ⟨wb, 2, none⟩ = some (.int .i64 (most : Int)) := hpl3.out.box.cell 2
          have c3 : wy.cell? ⟨b, o + k * 3 + 2, none⟩ = some (.int .u64 (d.far : Int)) := hfar.out wy hpl3.out.ch.b
          have hpl4 : Hid (Pl w wb most g' r' first' l' PA' pc' wy.drew) := hpl3.out.below (Below.refl _ _).drew
          have hrem : (k : Int).tmod 4 = ((k % 4 : Nat) : Int) := by rw [Int.tmod_eq_emod_of_nonneg (by omega)]; omega
          have hfi : Hid (first' ≤ 18446744073709551615) := by have := hpl3.out.ch.q.num; show _ ≤ _; omega
          have hm4 : Hid (k % 4 ≤ 9999) := by show _ ≤ _; omega
          clear hpl2 d0 d1 d2 e0 e1 e2 f0 f1 f2
          by_cases hq : d.far < 60
          · have q1 : decide ((d.far : Int) < 60) = true := decide_eq_true (by omega)
            by_cases hq2 : first' < 9223372036854775808
            · have q2 : decide ((first' : Int) < 9223372036854775808) = true := decide_eq_true (by omega)
              have q3 : IntKind.u64.wrap ((first' : Int) + (d.far : Int)) = ((first' + d.far : Nat) : Int) := by rw [IntKind.wrap_u64]; omega
              have his := Lib.hid (fun W (hp : Pl w wb most g' r' first' l' PA' pc' W) => is_pl hp (first' + d.far) (k % 4) (by omega) hm4.out)
              clear hq hq2
              go_wp2
              have x1 : wy.drew.cell? ⟨wb, 1, none⟩ = some (.int .u64 (first' : Int)) := hpl4.out.box.cell 1
              have x3 : wy.drew.cell? ⟨b, o + k * 3 + 2, none⟩ = some (.int .u64 (d.far : Int)) := hfar.out _ hpl4.out.ch.b
              go_region_held3 (fun w' => w'.cell? ⟨wb, 1, none⟩ = some (.int .u64 (first' : Int)) ∧ w'.cell? ⟨b, o + k * 3 + 2, none⟩ = some (.int .u64 (d.far : Int)))
                (exact ⟨x1, x3⟩) (fail)
              all_goals
                have y0 : wy.drew.cell? ⟨wb, 0, none⟩ = some (.slice PA' l'.length pc') := hpl4.out.box.cell 0
                have y2 : wy.drew.cell? ⟨wb, 2, none⟩ = some (.int .i64 (most : Int)) := hpl4.out.box.cell 2
                go_wp2_with (go_at_call 12; refine (his.out _ hpl4.out).mono ?_; rintro e w4 ⟨rfl, hpl5⟩; have hpl5' := Lib.hid hpl5; clear hpl5)
                go_roundw
                case rel => exact ⟨k + 1, g', r', first', l', PA', pc', by omega, rfl, by go_num, hpl5'.out⟩
                case measure => simp [intOf]; omega
            · have q2 : decide ((first' : Int) < 9223372036854775808) = false := decide_eq_false (by omega)
              have his := Lib.hid (fun W (hp : Pl w wb most g' r' first' l' PA' pc' W) => is_pl hp first' (k % 4) hfi.out hm4.out)
              clear hq hq2
              go_wp2_with (go_at_call 12; refine (his.out _ hpl3.out).mono ?_; rintro e w4 ⟨rfl, hpl5⟩; have hpl5' := Lib.hid hpl5; clear hpl5)
              go_roundw
              case rel => exact ⟨k + 1, g', r', first', l', PA', pc', by omega, rfl, by go_num, hpl5'.out⟩
              case measure => simp [intOf]; omega
          · have q1 : decide ((d.far : Int) < 60) = false := decide_eq_false (by omega)
            have his := Lib.hid (fun W (hp : Pl w wb most g' r' first' l' PA' pc' W) => is_pl hp first' (k % 4) hfi.out hm4.out)
            clear hq
            go_wp2_with (go_at_call 12; refine (his.out _ hpl3.out).mono ?_; rintro e w4 ⟨rfl, hpl5⟩; have hpl5' := Lib.hid hpl5; clear hpl5)
            go_roundw
            case rel => exact ⟨k + 1, g', r', first', l', PA', pc', by omega, rfl, by go_num, hpl5'.out⟩
            case measure => simp [intOf]; omega
    · obtain rfl : k = n := by omega
      have hp := hpl'.out
      have his' := Lib.hid (is_pl hp 0 9999 (by omega) (by omega))
      have e0 : wr.cell? ⟨wb, 0, none⟩ = some (.slice PA l.length pc) := hp.box.cell 0
      have e1 : wr.cell? ⟨wb, 1, none⟩ = some (.int .u64 (first : Int)) := hp.box.cell 1
      have e2 : wr.cell? ⟨wb, 2, none⟩ = some (.int .i64 (most : Int)) := hp.box.cell 2
      clear hp
      go_wp2_with (first | (go_at_call 12; refine his'.out.mono ?_; rintro e w3 ⟨rfl, hpl5⟩; have hB3' := Lib.hid hpl5.ch.b; clear hpl5) | (go_at_call 7; refine (works_any _).mono ?_; rintro e w5 ⟨rfl, hb⟩))
      go_ret
      exact ⟨rfl, hB3'.out.trans (hb.mono hB3'.out.size)⟩
end Go.Proofs.Ytajdlkohnafbeaa
