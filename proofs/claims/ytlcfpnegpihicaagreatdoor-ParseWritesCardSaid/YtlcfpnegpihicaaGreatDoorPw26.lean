import Derived.Test.YtlcfpnegpihicaaGreatDoorPw8
import Derived.Deep.CutBlock
import Derived.Deep.CutRange
import Derived.BigRegion
import Derived.WalkMore
namespace Go.Proofs.YtlcfpnegpihicaaGreatDoor
open Go.RowKit Go.Maps

/-! ## The document's Of -/
theorem byte_at (l : List UInt8) (k : Nat) (__h : k < l.length) (h' : k < (⟨l.toArray⟩ : ByteArray).size) : ((⟨l.toArray⟩ : ByteArray)[k]'h') = l[k] := rfl
theorem ext_mk (l : List UInt8) (a b : Nat) : (⟨l.toArray⟩ : ByteArray).extract a b = ⟨((l.drop a).take (b - a)).toArray⟩ := by
  have h : ((⟨l.toArray⟩ : ByteArray).extract a b).data = ((l.drop a).take (b - a)).toArray := by
    apply Array.toList_inj.1
    rw [ByteArray.data_extract, Array.toList_extract, List.extract_eq_take_drop]
  generalize (⟨l.toArray⟩ : ByteArray).extract a b = x at h ⊢
  cases x
  exact congrArg ByteArray.mk h
theorem ext_end (l : List UInt8) (a : Nat) : (⟨l.toArray⟩ : ByteArray).extract a l.length = ⟨(l.drop a).toArray⟩ := by
  rw [ext_mk, List.take_of_length_le (by simp)]
theorem ext_from (l : List UInt8) (b : Nat) : (⟨l.toArray⟩ : ByteArray).extract 0 b = ⟨(l.take b).toArray⟩ := by
  rw [ext_mk]; simp
def RefF (w : World) (l : List UInt8) (F R : Nat) (wx : World) : Prop := ∃ nm vl, Has wx F 104 #[.int .i64 7, .string ⟨nm.toArray⟩, .string ⟨vl.toArray⟩] ∧ fieldF l = ((kindK nm : Int), nm, vl) ∧ Has wx R 104 #[.int .i64 0, .string ⟨#[]⟩, .string ⟨#[]⟩] ∧ Below w.heap.size w wx
set_option maxRecDepth 100000 in
set_option maxHeartbeats 1000000 in
theorem refOfF_any (l : List UInt8) (w : World) (hl : l.length ≤ 1000000) : Calls Tryz.prog 51 #[.string ⟨l.toArray⟩] w fun e w' => e = .returned (.agg #[.int .i64 (fieldF l).1, .string ⟨(fieldF l).2.1.toArray⟩, .string ⟨(fieldF l).2.2.toArray⟩]) ∧ Below w.heap.size w w' := by
  by_cases h0 : l = []
  · subst h0
    go_enter Tryz.func51, Tryz.ntmps51
    go_wp2
    have kR := Has.new w 104 #[.int .i64 1, .string ⟨#[]⟩, .string ⟨#[]⟩]
    have x0 := kR.cell 0
    have x1 := kR.cell 1
    have x2 := kR.cell 2
    refine bodyPost_ret (v := .agg #[.int .i64 1, .string ⟨#[]⟩, .string ⟨#[]⟩]) (by simp [results, Tryz.results51, go_sem, x0, x1, x2]) rfl ⟨rfl, (Below.refl _ _).alloc (Nat.le_refl _) _⟩
  · have hie := isE h0
    have hlen : 0 < l.length := List.length_pos_iff.2 h0
    have hlenI : (0 : Int) < (l.length : Int) := by omega
    by_cases h1 : l.head? = some 58
    · obtain ⟨b, r, rfl⟩ : ∃ b r, l = b :: r := by cases l with
        | nil => exact absurd rfl h0
        | cons b r => exact ⟨b, r, rfl⟩
      obtain rfl : b = 58 := by simpa using h1
      rw [fieldF_comment]
      have hx : (⟨(58 :: r).toArray⟩ : ByteArray).extract 1 (r.length + 1) = ⟨r.toArray⟩ := ext_end (58 :: r) 1
      go_enter Tryz.func51, Tryz.ntmps51
      go_wp2
      have kR := Has.new w 104 #[.int .i64 2, .string ⟨#[]⟩, .string ⟨r.toArray⟩]
      have x0 := kR.cell 0
      have x1 := kR.cell 1
      have x2 := kR.cell 2
      refine bodyPost_ret (v := .agg #[.int .i64 2, .string ⟨#[]⟩, .string ⟨r.toArray⟩]) (by simp [results, Tryz.results51, go_sem, x0, x1, x2]) rfl ⟨rfl, (Below.refl _ _).alloc (Nat.le_refl _) _⟩
    · have hi0 : ((((⟨l.toArray⟩ : ByteArray)[0]'hlen).toNat : Int) == 58) = false := by
        rw [byte_at l 0 hlen, beq_eq_false_iff_ne]
        intro e
        apply h1
        rw [List.head?_eq_getElem?, List.getElem?_eq_getElem hlen]
        congr 1
        exact UInt8.toNat_inj.1 (show (l[0]).toNat = 58 by omega)
      have h1' := Lib.hid h1
      have kR := (Has.new w 104 #[.int .i64 0, .string ⟨#[]⟩, .string ⟨#[]⟩]).alloc (.cells #[.int .i64 7, .string ⟨l.toArray⟩, .string ⟨#[]⟩] 104)
      have kF := Has.new (w.alloc (.cells #[.int .i64 0, .string ⟨#[]⟩, .string ⟨#[]⟩] 104)) 104 #[.int .i64 7, .string ⟨l.toArray⟩, .string ⟨#[]⟩]
      have hb2 : Below w.heap.size w ((w.alloc (.cells #[.int .i64 0, .string ⟨#[]⟩, .string ⟨#[]⟩] 104)).alloc (.cells #[.int .i64 7, .string ⟨l.toArray⟩, .string ⟨#[]⟩] 104)) := ((Below.refl _ _).alloc (Nat.le_refl _) _).alloc (by simp) _
      simp only [World.size_alloc] at kF
      obtain ⟨w2, hw2⟩ : ∃ w2, (w.alloc (.cells #[.int .i64 0, .string ⟨#[]⟩, .string ⟨#[]⟩] 104)).alloc (.cells #[.int .i64 7, .string ⟨l.toArray⟩, .string ⟨#[]⟩] 104) = w2 := ⟨_, rfl⟩
      rw [hw2] at kR kF hb2
      have hw2' := Lib.hid hw2
      have kR' := Lib.hid kR
      have kF' := Lib.hid kF
      have hb2' := Lib.hid hb2
      have h0' := Lib.hid h0
      clear h1 hw2 kR kF hb2 h0
      go_enter Tryz.func51, Tryz.ntmps51
      go_upto_block 0 with fail
      rw [show (w.alloc (.cells #[.int .i64 0, .string ⟨#[]⟩, .string ⟨#[]⟩] 104)).alloc (.cells #[.int .i64 7, .string ⟨l.toArray⟩, .string ⟨#[]⟩] 104) = w2 from hw2'.out]
      clear hi0
      go_cut [4] from 16 to 48 (fun _ wx => RefF w l (w.heap.size + 1) w.heap.size wx)
      case first =>
        go_wp2_with fail
        go_loopw [4] (fun v W => ∃ k : Nat, v = .int .i64 (k : Int) ∧ k ≤ l.length ∧ (58 : UInt8) ∉ l.take k ∧ W = w2) (fun v _ => l.length - (intOf v).toNat)
        case atStart => exact ⟨0, rfl, Nat.zero_le _, by simp, rfl⟩
        case round =>
          obtain ⟨k, rfl, hk, hno, rfl⟩ := hrel
          have hno' := Lib.hid hno
          clear hno
          by_cases hlt : k < l.length
          · have hltI : (k : Int) < (l.length : Int) := by omega
            by_cases hc : l[k] = 58
            · have hat : l[k]? = some 58 := by rw [List.getElem?_eq_getElem hlt, hc]
              have hne : ((((⟨l.toArray⟩ : ByteArray)[k]'hlt).toNat : Int) != 58) = false := by
                rw [byte_at l k hlt, hc]; rfl
              have hfa := Lib.hid (fieldF_at h1'.out hat hno'.out)
              have hx1 := ext_from l k
              have hx2 := ext_end l (k + 1)
              have hk1 : (k : Int) + 1 ≤ (l.length : Int) := by omega
              have hk0 : (k : Int) ≤ (l.length : Int) := by omega
              obtain ⟨nm, hnm⟩ : ∃ nm, l.take k = nm := ⟨_, rfl⟩
              obtain ⟨d, hd⟩ : ∃ d, l.drop (k + 1) = d := ⟨_, rfl⟩
              rw [hnm] at hx1 hfa
              rw [hd] at hx2 hfa
              have f1 := kF'.out.free 1
              have f2 := kF'.out.free 2
              have y0 := kF'.out.cell 0
              have y1 := kF'.out.cell 1
              have y2 := kF'.out.cell 2
              clear hat hc hnm hd
              go_wp2_with fail
              go_region
              have kF4 : Has ((wr.setCell ⟨w.heap.size + 1, 1, none⟩ (.string ⟨nm.toArray⟩)).setCell ⟨w.heap.size + 1, 2, none⟩ (.string ⟨d.toArray⟩)).drew (w.heap.size + 1) 104 #[.int .i64 7, .string ⟨nm.toArray⟩, .string ⟨d.toArray⟩] := (kF'.out.put 1 (.string ⟨nm.toArray⟩)).put 2 (.string ⟨d.toArray⟩)
              have kR4 : Has ((wr.setCell ⟨w.heap.size + 1, 1, none⟩ (.string ⟨nm.toArray⟩)).setCell ⟨w.heap.size + 1, 2, none⟩ (.string ⟨d.toArray⟩)).drew w.heap.size 104 #[.int .i64 0, .string ⟨#[]⟩, .string ⟨#[]⟩] := (kR'.out.other (by omega) _).other (by omega) _
              have hb4 : Below w.heap.size w ((wr.setCell ⟨w.heap.size + 1, 1, none⟩ (.string ⟨nm.toArray⟩)).setCell ⟨w.heap.size + 1, 2, none⟩ (.string ⟨d.toArray⟩)).drew := ((hb2'.out.setCell (p := ⟨w.heap.size + 1, 1, none⟩) (Nat.le_succ _) _).setCell (p := ⟨w.heap.size + 1, 2, none⟩) (Nat.le_succ _) _).drew
              obtain ⟨w4, hw4⟩ : ∃ w4, ((wr.setCell ⟨w.heap.size + 1, 1, none⟩ (.string ⟨nm.toArray⟩)).setCell ⟨w.heap.size + 1, 2, none⟩ (.string ⟨d.toArray⟩)).drew = w4 := ⟨_, rfl⟩
              rw [hw4] at kF4 kR4 hb4
              rw [show ((wr.setCell ⟨w.heap.size + 1, 1, none⟩ (.string ⟨nm.toArray⟩)).setCell ⟨w.heap.size + 1, 2, none⟩ (.string ⟨d.toArray⟩)).drew = w4 from hw4]
              clear hw4 f1 f2 y0 y1 y2 hx1 hx2
              have kF4' := Lib.hid kF4
              have kR4' := Lib.hid kR4
              have hb4' := Lib.hid hb4
              have f2 := kF4.free 2
              have y2 := kF4.cell 2
              clear kF4 kR4 hb4
              cases d with
              | nil =>
                go_wp2_with fail
                go_meet
                exact ⟨nm, [], kF4'.out, hfa.out, kR4'.out, hb4'.out⟩
              | cons x r =>
                have hr0 : (0 : Int) < ((r.length : Int) + 1) := by omega
                have hr1 : (1 : Int) ≤ ((r.length : Int) + 1) := by omega
                by_cases hx : x = 32
                · subst hx
                  have hxx : (⟨(32 :: r).toArray⟩ : ByteArray).extract 1 (r.length + 1) = ⟨r.toArray⟩ := ext_end (32 :: r) 1
                  go_wp2_with fail
                  go_meet
                  refine ⟨nm, r, kF4'.out.put 2 (.string ⟨r.toArray⟩), ?_, kR4'.out.other (by omega) _, hb4'.out.setCell (p := ⟨w.heap.size + 1, 2, none⟩) (Nat.le_succ _) _⟩
                  rw [hfa.out]
                  simp [Lib.trimPrefix, Lib.hasPrefix, List.isPrefixOf]
                · have hx32 : ((((⟨(x :: r).toArray⟩ : ByteArray)[0]'(Nat.succ_pos _)).toNat : Int) == 32) = false := by
                    rw [byte_at (x :: r) 0 (Nat.succ_pos _), beq_eq_false_iff_ne]
                    exact fun e => hx (UInt8.toNat_inj.1 (show x.toNat = 32 by have e' : (x.toNat : Int) = 32 := e; omega))
                  have hx' := Lib.hid hx
                  clear hx
                  go_wp2_with fail
                  go_meet
                  refine ⟨nm, x :: r, kF4'.out, ?_, kR4'.out, hb4'.out⟩
                  rw [hfa.out]
                  have hne : (32 == x) = false := by rw [beq_eq_false_iff_ne]; exact fun e => hx'.out e.symm
                  simp [Lib.trimPrefix, Lib.hasPrefix, List.isPrefixOf, hne]
            · have hne : ((((⟨l.toArray⟩ : ByteArray)[k]'hlt).toNat : Int) != 58) = true := by
                rw [byte_at l k hlt, bne_iff_ne]
                intro e
                exact hc (UInt8.toNat_inj.1 (show (l[k]).toNat = 58 by omega))
              have hno2 := Lib.hid (show (58 : UInt8) ∉ l.take (k + 1) by
                rw [List.take_succ_eq_append_getElem hlt, List.mem_append, not_or]
                exact ⟨hno'.out, by simpa using fun e => hc e.symm⟩)
              clear hc
              go_wp2_with fail
              exact ⟨⟨k + 1, by go_num, by omega, hno2.out, trivial⟩, by simp [intOf]; omega⟩
          · obtain rfl : k = l.length := by omega
            have hres := fieldF_no h0'.out (by have := hno'.out; rwa [List.take_length] at this)
            have hres' := Lib.hid hres
            clear hres
            go_wp2_with fail
            go_meet
            exact ⟨l, [], kF'.out, hres'.out, kR'.out, hb2'.out⟩
      case rest =>
        obtain ⟨nm, vl, hF, hf, hR, hb⟩ := hcut
        have hf' := Lib.hid hf
        have hF' := Lib.hid hF
        have hR' := Lib.hid hR
        have hb' := Lib.hid hb
        have y0 := hF.cell 0
        have y1 := hF.cell 1
        have y2 := hF.cell 2
        have f0 := hF.free 0
        have g0 := hR.free 0
        have z0 := hR.cell 0
        have z1 := hR.cell 1
        have z2 := hR.cell 2
        have f1 := hR.free 1
        have f2 := hR.free 2
        clear hF hR hb hf
        by_cases h0 : nm = [100, 97, 116, 97]
        · subst h0
          go_wp2_with fail
          have kf := (((hR'.out.other (j := w.heap.size + 1) (i := 0) (by omega) (.int .i64 3)).put 0 (.int .i64 3)).put 1 (.string ⟨#[100, 97, 116, 97]⟩)).put 2 (.string ⟨vl.toArray⟩)
          have x0 := kf.cell 0
          have x1 := kf.cell 1
          have x2 := kf.cell 2
          refine bodyPost_ret (v := .agg #[.int .i64 3, .string ⟨#[100, 97, 116, 97]⟩, .string ⟨vl.toArray⟩]) (by simp [results, Tryz.results51, go_sem, x0, x1, x2]) rfl ⟨?_, (((hb'.out.setCell (p := ⟨w.heap.size + 1, 0, none⟩) (Nat.le_succ _) _).setCell (p := ⟨w.heap.size, 0, none⟩) (Nat.le_refl _) _).setCell (p := ⟨w.heap.size, 1, none⟩) (Nat.le_refl _) _).setCell (p := ⟨w.heap.size, 2, none⟩) (Nat.le_refl _) _⟩
          rw [hf'.out]; rfl
        have q0 : (nm == [100, 97, 116, 97]) = false := beq_eq_false_iff_ne.2 h0
        by_cases h1 : nm = [101, 118, 101, 110, 116]
        · subst h1
          go_wp2_with fail
          have kf := (((hR'.out.other (j := w.heap.size + 1) (i := 0) (by omega) (.int .i64 4)).put 0 (.int .i64 4)).put 1 (.string ⟨#[101, 118, 101, 110, 116]⟩)).put 2 (.string ⟨vl.toArray⟩)
          have x0 := kf.cell 0
          have x1 := kf.cell 1
          have x2 := kf.cell 2
          refine bodyPost_ret (v := .agg #[.int .i64 4, .string ⟨#[101, 118, 101, 110, 116]⟩, .string ⟨vl.toArray⟩]) (by simp [results, Tryz.results51, go_sem, x0, x1, x2]) rfl ⟨?_, (((hb'.out.setCell (p := ⟨w.heap.size + 1, 0, none⟩) (Nat.le_succ _) _).setCell (p := ⟨w.heap.size, 0, none⟩) (Nat.le_refl _) _).setCell (p := ⟨w.heap.size, 1, none⟩) (Nat.le_refl _) _).setCell (p := ⟨w.heap.size, 2, none⟩) (Nat.le_refl _) _⟩
          rw [hf'.out]; rfl
        have q1 : (nm == [101, 118, 101, 110, 116]) = false := beq_eq_false_iff_ne.2 h1
        by_cases h2 : nm = [105, 100]
        · subst h2
          go_wp2_with fail
          have kf := (((hR'.out.other (j := w.heap.size + 1) (i := 0) (by omega) (.int .i64 5)).put 0 (.int .i64 5)).put 1 (.string ⟨#[105, 100]⟩)).put 2 (.string ⟨vl.toArray⟩)
          have x0 := kf.cell 0
          have x1 := kf.cell 1
          have x2 := kf.cell 2
          refine bodyPost_ret (v := .agg #[.int .i64 5, .string ⟨#[105, 100]⟩, .string ⟨vl.toArray⟩]) (by simp [results, Tryz.results51, go_sem, x0, x1, x2]) rfl ⟨?_, (((hb'.out.setCell (p := ⟨w.heap.size + 1, 0, none⟩) (Nat.le_succ _) _).setCell (p := ⟨w.heap.size, 0, none⟩) (Nat.le_refl _) _).setCell (p := ⟨w.heap.size, 1, none⟩) (Nat.le_refl _) _).setCell (p := ⟨w.heap.size, 2, none⟩) (Nat.le_refl _) _⟩
          rw [hf'.out]; rfl
        have q2 : (nm == [105, 100]) = false := beq_eq_false_iff_ne.2 h2
        by_cases h3 : nm = [114, 101, 116, 114, 121]
        · subst h3
          go_wp2_with fail
          have kf := (((hR'.out.other (j := w.heap.size + 1) (i := 0) (by omega) (.int .i64 6)).put 0 (.int .i64 6)).put 1 (.string ⟨#[114, 101, 116, 114, 121]⟩)).put 2 (.string ⟨vl.toArray⟩)
          have x0 := kf.cell 0
          have x1 := kf.cell 1
          have x2 := kf.cell 2
          refine bodyPost_ret (v := .agg #[.int .i64 6, .string ⟨#[114, 101, 116, 114, 121]⟩, .string ⟨vl.toArray⟩]) (by simp [results, Tryz.results51, go_sem, x0, x1, x2]) rfl ⟨?_, (((hb'.out.setCell (p := ⟨w.heap.size + 1, 0, none⟩) (Nat.le_succ _) _).setCell (p := ⟨w.heap.size, 0, none⟩) (Nat.le_refl _) _).setCell (p := ⟨w.heap.size, 1, none⟩) (Nat.le_refl _) _).setCell (p := ⟨w.heap.size, 2, none⟩) (Nat.le_refl _) _⟩
          rw [hf'.out]; rfl
        have q3 : (nm == [114, 101, 116, 114, 121]) = false := beq_eq_false_iff_ne.2 h3
        have hk7 := Lib.hid (show (kindK nm : Int) = 7 by unfold kindK; rw [if_neg h0, if_neg h1, if_neg h2, if_neg h3]; rfl)
        go_wp2_with fail
        have kf := ((hR'.out.put 0 (.int .i64 7)).put 1 (.string ⟨nm.toArray⟩)).put 2 (.string ⟨vl.toArray⟩)
        have x0 := kf.cell 0
        have x1 := kf.cell 1
        have x2 := kf.cell 2
        refine bodyPost_ret (v := .agg #[.int .i64 7, .string ⟨nm.toArray⟩, .string ⟨vl.toArray⟩]) (by simp [results, Tryz.results51, go_sem, x0, x1, x2]) rfl ⟨?_, ((hb'.out.setCell (p := ⟨w.heap.size, 0, none⟩) (Nat.le_refl _) _).setCell (p := ⟨w.heap.size, 1, none⟩) (Nat.le_refl _) _).setCell (p := ⟨w.heap.size, 2, none⟩) (Nat.le_refl _) _⟩
        rw [hf'.out, hk7.out]
end Go.Proofs.YtlcfpnegpihicaaGreatDoor
