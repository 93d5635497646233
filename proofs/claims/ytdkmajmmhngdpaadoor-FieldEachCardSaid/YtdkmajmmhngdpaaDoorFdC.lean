import Derived.Test.YtdkmajmmhngdpaaDoorFdB
import Derived.Test.YtdkmajmmhngdpaaDoorShelfF
import Derived.Outline
namespace Go.Proofs.YtdkmajmmhngdpaaDoor
open Go.RowKit Go.Maps

/-! ## What a line says -/
def sV (l : List UInt8) : Value := .string ⟨l.toArray⟩
def fieldF (l : List UInt8) : Int × List UInt8 × List UInt8 :=
  if l = [] then (1, [], []) else if Lib.hasPrefix l [58] = true then (2, [], Lib.trimPrefix l [58]) else (kindK (Lib.cut l [58]).1, (Lib.cut l [58]).1, Lib.trimPrefix (Lib.cut l [58]).2.1 [32])
def MaxT (W : World) : Prop := ∃ m, Has W 3 3 #[.int .i64 m]
theorem MaxT.below {W W' : World} (h : MaxT W) (hb : Below W.heap.size W W') : MaxT W' := by
  obtain ⟨m, h⟩ := h
  exact ⟨m, h.below hb h.lt⟩
theorem NamesT.belowB {B : Nat} {W W' : World} (h : NamesT W) (hb : Below B W W') (hB : 1 < B) : NamesT W' := by
  obtain ⟨t, h⟩ := h
  exact ⟨t, (hb.block _ hB).trans h⟩
def undCells (f : Int × List UInt8 × List UInt8) (l : List UInt8) : Array Value := #[.int .i64 (f.1 : Int), .string ⟨f.2.1.toArray⟩, .string ⟨f.2.2.toArray⟩, .string ⟨l.toArray⟩]
def ReadF (B k : Nat) (l : List UInt8) (w : World) (e : Ending) (w' : World) : Prop := e = .returned (.tuple #[]) ∧ Has w' k 81 (undCells (fieldF l) l) ∧ Below B w w'
set_option maxRecDepth 100000 in
theorem readF_any (B k : Nat) (l : List UInt8) (w : World) (hk : Has w k 81 (undCells (0, [], []) l)) (hl : l.length ≤ 1000000) (hB : B ≤ k) (hN : NamesT w) (hNB : 1 < B) (hM : MaxT w) (__hMB : 3 < B) :
    Calls Tryd.prog 56 #[.pointer (some ⟨k, 0, none⟩)] w (ReadF B k l w) := by
  have c0 := hk.cell 0
  have c1 := hk.cell 1
  have c2 := hk.cell 2
  have c3 := hk.cell 3
  simp [undCells] at c0 c1 c2 c3
  have f0 := hk.free 0
  have f1 := hk.free 1
  have f2 := hk.free 2
  have hk' := Lib.hid hk
  have hN' := Lib.hid hN
  obtain ⟨m, hm⟩ := hM
  have hcp := Lib.hid (Tryd.strings_CutPrefix ⟨l.toArray⟩ ⟨#[58]⟩ w)
  have hct := Lib.hid (Tryd.strings_Cut ⟨l.toArray⟩ ⟨#[58]⟩ m w (by show l.toArray.size < _; simp; omega) (hm.cell 0))
  clear hk hN hm
  by_cases h1 : l = []
  · subst h1
    go_enter Tryd.func56, Tryd.ntmps56
    go_wp2_with (go_at_call 85; (with_reducible refine Calls.mono hcp.out ?_); rintro e w2 ⟨rfl, rfl⟩)
    refine bodyPost_end (results_none rfl _ _ _) rfl ?_
    exact ⟨rfl, by simpa [undCells, fieldF] using hk'.out.put 0 (.int .i64 1), (Below.refl _ _).setCell (p := ⟨k, 0, none⟩) hB _⟩
  · have hie : l.isEmpty = false := by
      cases l with
      | nil => exact absurd rfl h1
      | cons x r => rfl
    cases h2 : Lib.hasPrefix l [58] with
    | true =>
      rw [show (ByteArray.mk l.toArray).data.toList = l from by simp, show (ByteArray.mk #[58]).data.toList = [58] from rfl, h2] at hcp
      go_enter Tryd.func56, Tryd.ntmps56
      go_wp2_with (go_at_call 85; (with_reducible refine Calls.mono hcp.out ?_); rintro e w2 ⟨rfl, rfl⟩)
      refine bodyPost_end (results_none rfl _ _ _) rfl ?_
      refine ⟨rfl, ?_, ((Below.refl _ _).setCell (p := ⟨k, 0, none⟩) hB _).setCell (p := ⟨k, 2, none⟩) hB _⟩
      have := (hk'.out.put 0 (.int .i64 2)).put 2 (.string ⟨(Lib.trimPrefix l [58]).toArray⟩)
      simpa [undCells, fieldF, h1, h2] using this
    | false =>
      rw [show (ByteArray.mk l.toArray).data.toList = l from by simp, show (ByteArray.mk #[58]).data.toList = [58] from rfl, h2] at hcp
      rw [show (ByteArray.mk l.toArray).data.toList = l from by simp, show (ByteArray.mk #[58]).data.toList = [58] from rfl] at hct
      have hff : fieldF l = ((kindK (Lib.cut l [58]).1 : Int), (Lib.cut l [58]).1, Lib.trimPrefix (Lib.cut l [58]).2.1 [32]) := by
        unfold fieldF
        rw [if_neg h1, h2]
        rfl
      have hn1 : (Lib.cut l [58]).1.length ≤ 1000000 := by
        unfold Lib.cut
        split
        · simp; omega
        · exact hl
      obtain ⟨nm, hnm⟩ : ∃ nm, (Lib.cut l [58]).1 = nm := ⟨_, rfl⟩
      obtain ⟨vl, hvl⟩ : ∃ vl, (Lib.cut l [58]).2.1 = vl := ⟨_, rfl⟩
      rw [hnm, hvl] at hff
      rw [hnm] at hn1
      rw [hnm, hvl] at hct
      have htp := Lib.hid (fun W => Tryd.strings_TrimPrefix ⟨vl.toArray⟩ ⟨#[32]⟩ W)
      rw [show (ByteArray.mk vl.toArray).data.toList = vl from by simp, show (ByteArray.mk #[32]).data.toList = [32] from rfl] at htp
      have hkd := Lib.hid (fun W (hb : Below B w W) => kindOf_any ⟨nm.toArray⟩ W (by show nm.toArray.size ≤ _; simp [maxLen]; omega) (hN'.out.belowB hb hNB))
      rw [show (ByteArray.mk nm.toArray).data.toList = nm from by simp] at hkd
      obtain ⟨tv, htv⟩ : ∃ tv, Lib.trimPrefix vl [32] = tv := ⟨_, rfl⟩
      rw [htv] at hff htp
      have hff' := Lib.hid hff
      clear hff hnm hvl htv h2
      go_enter Tryd.func56, Tryd.ntmps56
      go_wp2_with (first
        | (go_at_call 85; (with_reducible refine Calls.mono hcp.out ?_); rintro e w2 ⟨rfl, rfl⟩)
        | (go_at_call 86; (with_reducible refine Calls.mono hct.out ?_); rintro e w3 ⟨rfl, n3, rfl⟩)
        | (go_at_call 87; (with_reducible refine Calls.mono (htp.out _) ?_); rintro e w4 ⟨rfl, rfl⟩)
        | (go_at_call 88; refine (hkd.out _ ((((below_draws (Below.refl _ _) n3).setCell (p := ⟨k, 1, none⟩) hB _).setCell (p := ⟨k, 2, none⟩) hB _).setCell (p := ⟨k, 2, none⟩) hB _)).mono ?_; rintro e w5 ⟨rfl, hb5⟩; have kq0 := (((hk'.out.drewN n3).put 1 (.string ⟨nm.toArray⟩)).put 2 (.string ⟨vl.toArray⟩)).put 2 (.string ⟨tv.toArray⟩); have kq := kq0.below hb5 kq0.lt; have y0 := kq.cell 0; have q0 := kq.free 0; have kq' := Lib.hid kq; have hB5 := Lib.hid (((((below_draws (Below.refl B w2) n3).setCell (p := ⟨k, 1, none⟩) hB (.string ⟨nm.toArray⟩)).setCell (p := ⟨k, 2, none⟩) hB (.string ⟨vl.toArray⟩)).setCell (p := ⟨k, 2, none⟩) hB (.string ⟨tv.toArray⟩)).trans (hb5.mono (by have := kq0.lt; omega))); clear kq kq0 hb5))
      refine bodyPost_end (results_none rfl _ _ _) rfl ?_
      refine ⟨rfl, ?_, hB5.out.setCell (p := ⟨k, 0, none⟩) hB _⟩
      have := kq'.out.put 0 (.int .i64 (kindK nm : Int))
      rw [hff'.out]
      simpa [undCells] using this
end Go.Proofs.YtdkmajmmhngdpaaDoor
