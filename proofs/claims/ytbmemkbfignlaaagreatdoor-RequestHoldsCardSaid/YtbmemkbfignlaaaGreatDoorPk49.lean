import Derived.Test.YtbmemkbfignlaaaGreatDoorPk1
import Derived.Test.YtbmemkbfignlaaaGreatDoorProg
import Derived.WalkSpells
import Derived.WalkLawsBesides
import Derived.Maps.Own
import Derived.Maps.OwnSet
import Derived.Test.YtbmemkbfignlaaaGreatDoorPk48
namespace Go.Proofs.YtbmemkbfignlaaaGreatDoor
open Go.RowKit Go.Maps
attribute [local go_sem] Oper.semAt_some

/-! ## Refusal of a head that is too large: statuses in a map -/
theorem keysE : Keyed Tryz.prog 42 := int_keyed Tryz.underlying42
noncomputable def iElem (v : Value) : Option (DataW Unit × List MemPlace) := match v with
  | .int .i64 n => some (.lit (.int .i64 n), [])
  | _ => some (.lit (.bool false), [])
theorem iElem_inv {v : Value} {n : Int} {ps : List MemPlace} (h : iElem v = some (.lit (.int .i64 n), ps)) : v = .int .i64 n := by
  unfold iElem at h
  split at h
  · rename_i m
    injection h with h
    injection h with h _
    injection h with h
    injection h with _ h
    rw [h]
  · simp at h
noncomputable def RefD : DataW Unit := ((DataW.map []).put (.int .i64 0) (.lit (.int .i64 0))).put (.int .i64 201) (.lit (.int .i64 431))
set_option maxRecDepth 100000 in
theorem refusals_any (w : World) : Calls Tryz.prog 43 #[] w fun e w' => ∃ b, e = .returned (.map (some b)) ∧ w'.ownsMap Tryz.prog 42 iElem b 2 RefD ∧ Below w.heap.size w w' := by
  have hmk := run_makeMap (P := Tryz.prog) 79 w
  have o0 := World.ownsMap_made w Tryz.prog 42 iElem
  obtain ⟨w1, h1, o1, g1⟩ := o0.update keysE Tryz.underlying79 (by decide) (key := .int .i64 0) (val := .int .i64 0) (kl := .int .i64 0) (keyOf_int_mk Tryz.underlying42 (by decide)) rfl
  obtain ⟨w2, h2, o2, g2⟩ := o1.update keysE Tryz.underlying79 (by decide) (key := .int .i64 201) (val := .int .i64 431) (kl := .int .i64 201) (keyOf_int_mk Tryz.underlying42 (by decide)) rfl
  have hb0 : Below w.heap.size w (w.alloc (.map #[] 0)) := (Below.refl _ _).alloc (Nat.le_refl _) _
  have hw0 : w.heap.size < (w.alloc (.map #[] 0)).heap.size := by simp
  have b1 := hb0.grown g1 (by omega) (fun g e => by have := Option.some.inj e; omega)
  have b2 := Lib.hid (b1.grown g2 (by have := g1.size; omega) (fun g e => by have := Option.some.inj e; omega))
  have o2' := Lib.hid o2
  clear o0 o1 o2 g1 g2 b1 hb0 hw0
  go_enter Tryz.func43, Tryz.ntmps43
  go_wp2
  go_ret
  exact ⟨_, rfl, o2'.out, b2.out⟩
theorem zeroE (W : World) : (zeroValue 3).run Tryz.prog W = .ok (.int .i64 0) W := by kernel_rfl
set_option maxRecDepth 100000 in
theorem refusal_large (w : World) : Calls Tryz.prog 20 #[.int .i64 201] w fun e w' => e = .returned (.int .i64 431) ∧ Below w.heap.size w w' := by
  have hr := Lib.hid (refusals_any w)
  have hat : RefD.atKey (.int .i64 201) (.lit (.int .i64 0)) = .lit (.int .i64 431) := rfl
  have hhas : Maps.has RefD (.int .i64 201) = true := rfl
  have hky : keyOf Tryz.prog 42 (.int .i64 201) = some (.int .i64 201) := keyOf_int_mk Tryz.underlying42 (by decide)
  have hat' := Lib.hid hat
  have hhas' := Lib.hid hhas
  have hky' := Lib.hid hky
  clear hat hhas hky
  go_enter Tryz.func20, Tryz.ntmps20
  go_wp2_with (go_at_call 43; (with_reducible refine Calls.mono hr.out ?_); rintro e w3 ⟨b, rfl, hown, hb3⟩
               obtain ⟨v, ps, hrun, hv⟩ := hown.look_ok keysE Tryz.underlying79 (zeroE w3) (zd := .lit (.int .i64 0)) (zp := []) rfl hky'.out
               rw [hat'.out] at hv
               obtain rfl := iElem_inv hv
               rw [hhas'.out] at hrun
               have hb3' := Lib.hid hb3
               clear hown hb3 hv)
  go_ret
  exact ⟨rfl, hb3'.out⟩
end Go.Proofs.YtbmemkbfignlaaaGreatDoor

namespace Go.Proofs.YtbmemkbfignlaaaGreatDoor
open Go.RowKit Go.Shelf
attribute [local go_sem] Oper.semAt_some

/-! ## What the law's works asks: seven heads -/
def wf0 : List UInt8 := [71, 69, 84, 32, 47, 97, 32, 72, 84, 84, 80, 47, 49, 46, 49]
def wl0 : List PairL := [([104, 111, 115, 116], [120])]
theorem wk_head0 : Rr.headB wf0 wl0 = true := by decide +kernel
theorem wk_few0 : FewHd wf0 wl0 := ⟨by decide, by decide, by decide⟩
theorem wk_status0 : Rr.status (Rr.lkOf wf0 wl0) = 200 := by decide +kernel
theorem wst0 (A : Option Addr) (c : Nat) (W : World) (hT : TabT W) (hx : Prs W A wl0) : Calls Tryz.prog 19 #[.agg #[.string ⟨#[71, 69, 84, 32, 47, 97, 32, 72, 84, 84, 80, 47, 49, 46, 49]⟩, .slice A 1 c]] W fun e w' => e = .returned (.tuple #[.int .i64 200, .int .i64 0]) ∧ Below W.heap.size W w' := by
  have h := statusH_any wf0 A c wl0 W hT wk_few0 hx wk_head0
  rw [wk_status0] at h
  exact h
theorem wof0 (g : Nat) (w : World) (hg : Has w g 9 #[.string ⟨#[104, 111, 115, 116]⟩, .string ⟨#[120]⟩]) : Calls Tryz.prog 18 #[.string ⟨#[71, 69, 84, 32, 47, 97, 32, 72, 84, 84, 80, 47, 49, 46, 49]⟩, .slice (some ⟨g, 0, none⟩) 2 2] w fun e w' =>
    (∃ A c, e = .returned (.agg #[.string ⟨#[71, 69, 84, 32, 47, 97, 32, 72, 84, 84, 80, 47, 49, 46, 49]⟩, .slice A 1 c]) ∧ Prs w' A wl0) ∧ Below w.heap.size w w' := of2_any wf0 [104, 111, 115, 116] [120] g w hg
def wf1 : List UInt8 := [71, 69, 84, 32, 47, 97, 32, 72, 84, 84, 80, 47, 49, 46, 49]
def wl1 : List PairL := []
theorem wk_head1 : Rr.headB wf1 wl1 = true := by decide +kernel
theorem wk_few1 : FewHd wf1 wl1 := ⟨by decide, by decide, by decide⟩
theorem wk_status1 : Rr.status (Rr.lkOf wf1 wl1) = 400 := by decide +kernel
theorem wst1 (A : Option Addr) (c : Nat) (W : World) (hT : TabT W) (hx : Prs W A wl1) : Calls Tryz.prog 19 #[.agg #[.string ⟨#[71, 69, 84, 32, 47, 97, 32, 72, 84, 84, 80, 47, 49, 46, 49]⟩, .slice A 0 c]] W fun e w' => e = .returned (.tuple #[.int .i64 400, .int .i64 0]) ∧ Below W.heap.size W w' := by
  have h := statusH_any wf1 A c wl1 W hT wk_few1 hx wk_head1
  rw [wk_status1] at h
  exact h
theorem wof1 (w : World) : Calls Tryz.prog 18 #[.string ⟨#[71, 69, 84, 32, 47, 97, 32, 72, 84, 84, 80, 47, 49, 46, 49]⟩, .slice none 0 0] w fun e w' => e = .returned (.agg #[.string ⟨#[71, 69, 84, 32, 47, 97, 32, 72, 84, 84, 80, 47, 49, 46, 49]⟩, .slice none 0 0]) ∧ Below w.heap.size w w' := of0_any wf1 w
def wf2 : List UInt8 := [80, 79, 83, 84, 32, 47, 97, 32, 72, 84, 84, 80, 47, 49, 46, 49]
def wl2 : List PairL := [([104, 111, 115, 116], [120])]
theorem wk_head2 : Rr.headB wf2 wl2 = true := by decide +kernel
theorem wk_few2 : FewHd wf2 wl2 := ⟨by decide, by decide, by decide⟩
theorem wk_status2 : Rr.status (Rr.lkOf wf2 wl2) = 405 := by decide +kernel
theorem wst2 (A : Option Addr) (c : Nat) (W : World) (hT : TabT W) (hx : Prs W A wl2) : Calls Tryz.prog 19 #[.agg #[.string ⟨#[80, 79, 83, 84, 32, 47, 97, 32, 72, 84, 84, 80, 47, 49, 46, 49]⟩, .slice A 1 c]] W fun e w' => e = .returned (.tuple #[.int .i64 405, .int .i64 0]) ∧ Below W.heap.size W w' := by
  have h := statusH_any wf2 A c wl2 W hT wk_few2 hx wk_head2
  rw [wk_status2] at h
  exact h
theorem wof2 (g : Nat) (w : World) (hg : Has w g 9 #[.string ⟨#[104, 111, 115, 116]⟩, .string ⟨#[120]⟩]) : Calls Tryz.prog 18 #[.string ⟨#[80, 79, 83, 84, 32, 47, 97, 32, 72, 84, 84, 80, 47, 49, 46, 49]⟩, .slice (some ⟨g, 0, none⟩) 2 2] w fun e w' =>
    (∃ A c, e = .returned (.agg #[.string ⟨#[80, 79, 83, 84, 32, 47, 97, 32, 72, 84, 84, 80, 47, 49, 46, 49]⟩, .slice A 1 c]) ∧ Prs w' A wl2) ∧ Below w.heap.size w w' := of2_any wf2 [104, 111, 115, 116] [120] g w hg
def wf3 : List UInt8 := [71, 69, 84, 32, 47, 97, 32, 72, 84, 84, 80, 47, 50, 46, 48]
def wl3 : List PairL := [([104, 111, 115, 116], [120])]
theorem wk_head3 : Rr.headB wf3 wl3 = true := by decide +kernel
theorem wk_few3 : FewHd wf3 wl3 := ⟨by decide, by decide, by decide⟩
theorem wk_status3 : Rr.status (Rr.lkOf wf3 wl3) = 505 := by decide +kernel
theorem wst3 (A : Option Addr) (c : Nat) (W : World) (hT : TabT W) (hx : Prs W A wl3) : Calls Tryz.prog 19 #[.agg #[.string ⟨#[71, 69, 84, 32, 47, 97, 32, 72, 84, 84, 80, 47, 50, 46, 48]⟩, .slice A 1 c]] W fun e w' => e = .returned (.tuple #[.int .i64 505, .int .i64 0]) ∧ Below W.heap.size W w' := by
  have h := statusH_any wf3 A c wl3 W hT wk_few3 hx wk_head3
  rw [wk_status3] at h
  exact h
theorem wof3 (g : Nat) (w : World) (hg : Has w g 9 #[.string ⟨#[104, 111, 115, 116]⟩, .string ⟨#[120]⟩]) : Calls Tryz.prog 18 #[.string ⟨#[71, 69, 84, 32, 47, 97, 32, 72, 84, 84, 80, 47, 50, 46, 48]⟩, .slice (some ⟨g, 0, none⟩) 2 2] w fun e w' =>
    (∃ A c, e = .returned (.agg #[.string ⟨#[71, 69, 84, 32, 47, 97, 32, 72, 84, 84, 80, 47, 50, 46, 48]⟩, .slice A 1 c]) ∧ Prs w' A wl3) ∧ Below w.heap.size w w' := of2_any wf3 [104, 111, 115, 116] [120] g w hg
def wf4 : List UInt8 := [71, 69, 84, 32, 97, 32, 72, 84, 84, 80, 47, 49, 46, 49]
def wl4 : List PairL := [([104, 111, 115, 116], [120])]
theorem wk_head4 : Rr.headB wf4 wl4 = true := by decide +kernel
theorem wk_few4 : FewHd wf4 wl4 := ⟨by decide, by decide, by decide⟩
theorem wk_status4 : Rr.status (Rr.lkOf wf4 wl4) = 400 := by decide +kernel
theorem wst4 (A : Option Addr) (c : Nat) (W : World) (hT : TabT W) (hx : Prs W A wl4) : Calls Tryz.prog 19 #[.agg #[.string ⟨#[71, 69, 84, 32, 97, 32, 72, 84, 84, 80, 47, 49, 46, 49]⟩, .slice A 1 c]] W fun e w' => e = .returned (.tuple #[.int .i64 400, .int .i64 0]) ∧ Below W.heap.size W w' := by
  have h := statusH_any wf4 A c wl4 W hT wk_few4 hx wk_head4
  rw [wk_status4] at h
  exact h
theorem wof4 (g : Nat) (w : World) (hg : Has w g 9 #[.string ⟨#[104, 111, 115, 116]⟩, .string ⟨#[120]⟩]) : Calls Tryz.prog 18 #[.string ⟨#[71, 69, 84, 32, 97, 32, 72, 84, 84, 80, 47, 49, 46, 49]⟩, .slice (some ⟨g, 0, none⟩) 2 2] w fun e w' =>
    (∃ A c, e = .returned (.agg #[.string ⟨#[71, 69, 84, 32, 97, 32, 72, 84, 84, 80, 47, 49, 46, 49]⟩, .slice A 1 c]) ∧ Prs w' A wl4) ∧ Below w.heap.size w w' := of2_any wf4 [104, 111, 115, 116] [120] g w hg
def wf5 : List UInt8 := [71, 69, 84, 32, 47, 97, 32, 72, 84, 84, 80, 47, 49, 46, 48]
def wl5 : List PairL := [([97, 99, 99, 101, 112, 116], [116, 101, 120, 116, 47, 104, 116, 109, 108])]
theorem wk_head5 : Rr.headB wf5 wl5 = true := by decide +kernel
theorem wk_few5 : FewHd wf5 wl5 := ⟨by decide, by decide, by decide⟩
theorem wk_status5 : Rr.status (Rr.lkOf wf5 wl5) = 406 := by decide +kernel
theorem wst5 (A : Option Addr) (c : Nat) (W : World) (hT : TabT W) (hx : Prs W A wl5) : Calls Tryz.prog 19 #[.agg #[.string ⟨#[71, 69, 84, 32, 47, 97, 32, 72, 84, 84, 80, 47, 49, 46, 48]⟩, .slice A 1 c]] W fun e w' => e = .returned (.tuple #[.int .i64 406, .int .i64 0]) ∧ Below W.heap.size W w' := by
  have h := statusH_any wf5 A c wl5 W hT wk_few5 hx wk_head5
  rw [wk_status5] at h
  exact h
theorem wof5 (g : Nat) (w : World) (hg : Has w g 9 #[.string ⟨#[97, 99, 99, 101, 112, 116]⟩, .string ⟨#[116, 101, 120, 116, 47, 104, 116, 109, 108]⟩]) : Calls Tryz.prog 18 #[.string ⟨#[71, 69, 84, 32, 47, 97, 32, 72, 84, 84, 80, 47, 49, 46, 48]⟩, .slice (some ⟨g, 0, none⟩) 2 2] w fun e w' =>
    (∃ A c, e = .returned (.agg #[.string ⟨#[71, 69, 84, 32, 47, 97, 32, 72, 84, 84, 80, 47, 49, 46, 48]⟩, .slice A 1 c]) ∧ Prs w' A wl5) ∧ Below w.heap.size w w' := of2_any wf5 [97, 99, 99, 101, 112, 116] [116, 101, 120, 116, 47, 104, 116, 109, 108] g w hg
def wf6 : List UInt8 := [71, 69, 84, 32, 47, 104, 101, 97, 108, 116, 104, 32, 72, 84, 84, 80, 47, 49, 46, 48]
def wl6 : List PairL := [([97, 99, 99, 101, 112, 116], [116, 101, 120, 116, 47, 104, 116, 109, 108])]
theorem wk_head6 : Rr.headB wf6 wl6 = true := by decide +kernel
theorem wk_few6 : FewHd wf6 wl6 := ⟨by decide, by decide, by decide⟩
theorem wk_status6 : Rr.status (Rr.lkOf wf6 wl6) = 200 := by decide +kernel
theorem wst6 (A : Option Addr) (c : Nat) (W : World) (hT : TabT W) (hx : Prs W A wl6) : Calls Tryz.prog 19 #[.agg #[.string ⟨#[71, 69, 84, 32, 47, 104, 101, 97, 108, 116, 104, 32, 72, 84, 84, 80, 47, 49, 46, 48]⟩, .slice A 1 c]] W fun e w' => e = .returned (.tuple #[.int .i64 200, .int .i64 0]) ∧ Below W.heap.size W w' := by
  have h := statusH_any wf6 A c wl6 W hT wk_few6 hx wk_head6
  rw [wk_status6] at h
  exact h
theorem wof6 (g : Nat) (w : World) (hg : Has w g 9 #[.string ⟨#[97, 99, 99, 101, 112, 116]⟩, .string ⟨#[116, 101, 120, 116, 47, 104, 116, 109, 108]⟩]) : Calls Tryz.prog 18 #[.string ⟨#[71, 69, 84, 32, 47, 104, 101, 97, 108, 116, 104, 32, 72, 84, 84, 80, 47, 49, 46, 48]⟩, .slice (some ⟨g, 0, none⟩) 2 2] w fun e w' =>
    (∃ A c, e = .returned (.agg #[.string ⟨#[71, 69, 84, 32, 47, 104, 101, 97, 108, 116, 104, 32, 72, 84, 84, 80, 47, 49, 46, 48]⟩, .slice A 1 c]) ∧ Prs w' A wl6) ∧ Below w.heap.size w w' := of2_any wf6 [97, 99, 99, 101, 112, 116] [116, 101, 120, 116, 47, 104, 116, 109, 108] g w hg
theorem wk_look0 : Rr.lkOf wf0 wl0 = { f := wf0, l := wl0, method := [71, 69, 84], version := [72, 84, 84, 80, 47, 49, 46, 49], t := ([[97]], []), aims := true } := by
  unfold Rr.lkOf
  have e1 : Ac.tw 32 wf0 = [71, 69, 84] := by decide
  have e2 : Ac.bh 32 (Ac.bh 32 wf0) = [72, 84, 84, 80, 47, 49, 46, 49] := by decide
  have e3 : parseTg (Ac.tw 32 (Ac.bh 32 wf0)) = some ([[97]], []) := by decide +kernel
  rw [e1, e2, e3]
  rfl
theorem wofOf (A : Option Addr) (c : Nat) (W : World) (hT : TabT W) (hx : Prs W A wl0) : Calls Tryz.prog 16 #[.agg #[.string ⟨#[71, 69, 84, 32, 47, 97, 32, 72, 84, 84, 80, 47, 49, 46, 49]⟩, .slice A 1 c]] W fun e w' =>
    (∃ A1 c1 A2 c2, e = .returned (.tuple #[.agg #[.string ⟨#[71, 69, 84]⟩, .slice A1 1 c1, .slice A2 0 c2, .bool false, .bool false, .bool false, .string ⟨#[]⟩], .int .i64 200, .int .i64 0]) ∧ Txs w' A1 [[97]]) ∧ Below W.heap.size W w' := by
  have h := of_yes wf0 A c wl0 W hT wk_few0 hx wk_head0 wk_status0 (by rw [wk_look0]; decide) (by decide)
  rw [wk_look0] at h
  have e1 : Rr.vals Rr.lidL wl0 = [] := by decide
  rw [e1] at h
  refine Calls.mono h ?_
  rintro e w' ⟨⟨A1, c1, A2, c2, rfl, hx, -⟩, hb⟩
  exact ⟨⟨A1, c1, A2, c2, rfl, hx⟩, hb⟩
theorem num13_any (n : Int) (w : World) : Calls Tryz.prog 15 #[.int .i64 n] w fun e w' => e = .returned (.int .i64 n) ∧ w' = w := by
  go_enter Tryz.func15, Tryz.ntmps15
  go_wp2
  go_ret
  exact ⟨rfl, rfl⟩
end Go.Proofs.YtbmemkbfignlaaaGreatDoor

namespace Go.Proofs.YtbmemkbfignlaaaGreatDoor
open Go.RowKit Go.Shelf
attribute [local go_sem] Oper.semAt_some

/-! ## The law's works -/
set_option maxRecDepth 100000 in
set_option maxHeartbeats 16000000 in
theorem works13_any (w : World) (hT : TabT w) : Calls Tryz.prog 6 #[] w fun e w' => e = .returned (.bool true) ∧ Below w.heap.size w w' := by
  have hnum := Lib.hid (fun n W => num13_any n W)
  have hrf := Lib.hid (fun W => refusal_large W)
  have hT' := Lib.hid hT
  have hof0 := Lib.hid (fun g W h => wof0 g W h)
  have hOf := Lib.hid (fun A c W h1 h2 => wofOf A c W h1 h2)
  have hs1 := Lib.hid (fun A c W h1 h2 => wst1 A c W h1 h2)
  have hof1 := Lib.hid (fun W => wof1 W)
  have hs2 := Lib.hid (fun A c W h1 h2 => wst2 A c W h1 h2)
  have hof2 := Lib.hid (fun g W h => wof2 g W h)
  have hs3 := Lib.hid (fun A c W h1 h2 => wst3 A c W h1 h2)
  have hof3 := Lib.hid (fun g W h => wof3 g W h)
  have hs4 := Lib.hid (fun A c W h1 h2 => wst4 A c W h1 h2)
  have hof4 := Lib.hid (fun g W h => wof4 g W h)
  have hs5 := Lib.hid (fun A c W h1 h2 => wst5 A c W h1 h2)
  have hof5 := Lib.hid (fun g W h => wof5 g W h)
  have hs6 := Lib.hid (fun A c W h1 h2 => wst6 A c W h1 h2)
  have hof6 := Lib.hid (fun g W h => wof6 g W h)
  have hbs := Lib.hid (show Below w.heap.size w (w.alloc (.cells #[.string ⟨#[104, 111, 115, 116]⟩, .string ⟨#[120]⟩] 9)) from (Below.refl _ _).alloc (Nat.le_refl _) _)
  clear hT
  go_enter Tryz.func6, Tryz.ntmps6
  go_upto_region 2 with (first
    | (go_at_call 18; (with_reducible refine Calls.mono (hof0.out _ _ (Has.new _ _ _)) ?_); rintro e w2 ⟨⟨A0, c0, rfl, hp0⟩, hb2⟩; have hb2' := Lib.hid (below_on hbs.out hb2); have hp0' := Lib.hid hp0; clear hp0 hb2)
    | (go_at_call 16; (with_reducible refine Calls.mono (hOf.out _ _ _ (hT'.out.below hb2'.out) hp0'.out) ?_); rintro e w3 ⟨⟨A1, c1, A2, c2, rfl, hx⟩, hb3⟩; have hb3' := Lib.hid (below_on hb2'.out hb3); have hx' := Lib.hid hx; clear hx hb3))
  have k4 := Has.new w3 34 #[.string ⟨#[71, 69, 84]⟩, .slice A1 1 c1, .slice A2 0 c2, .bool false, .bool false, .bool false, .string ⟨#[]⟩]
  have hB4 : Below w3.heap.size w3 (w3.alloc (.cells #[.string ⟨#[71, 69, 84]⟩, .slice A1 1 c1, .slice A2 0 c2, .bool false, .bool false, .bool false, .string ⟨#[]⟩] 34)) := (Below.refl _ _).alloc (Nat.le_refl _) _
  obtain ⟨w4, hw4⟩ : ∃ w4, w3.alloc (.cells #[.string ⟨#[71, 69, 84]⟩, .slice A1 1 c1, .slice A2 0 c2, .bool false, .bool false, .bool false, .string ⟨#[]⟩] 34) = w4 := ⟨_, rfl⟩
  rw [hw4] at k4 hB4
  try rw [hw4]
  have e0 := k4.cell 0
  have e1 := k4.cell 1
  have e3 := k4.cell 3
  have e4 := k4.cell 4
  have e5 := k4.cell 5
  have hx4 := hx'.out.below hB4
  obtain ⟨bx, ox, rfl, hblt, hcx⟩ := hx4 (by decide)
  have ex := hcx 0 [97] rfl
  simp only [Nat.add_zero] at ex
  have hb4' := Lib.hid (below_on hb3'.out hB4)
  clear hB4 k4 hw4 hx4 hcx
  go_upto_region 4 with (go_at_call 15; (with_reducible refine Calls.mono (hnum.out _ _) ?_); rintro e w9 ⟨rfl, hw9⟩; obtain rfl := hw9.symm)
  clear e0 e1 e3 e4 e5 ex hblt
  go_wp2_with (first
    | (go_at_call 18; (with_reducible refine Calls.mono (hof1.out _) ?_); rintro e w5 ⟨rfl, hb5⟩; have hb5' := Lib.hid (below_on hb4'.out hb5); clear hb5)
    | (go_at_call 18; (with_reducible refine Calls.mono (hof2.out _ _ (Has.new _ _ _)) ?_); rintro e w6 ⟨⟨D2, d2, rfl, hp⟩, hb⟩; have bs := below_on ((Below.refl w5.heap.size w5).alloc (Nat.le_refl _) (.cells #[.string ⟨#[104, 111, 115, 116]⟩, .string ⟨#[120]⟩] 9)) hb; have hb6' := Lib.hid (below_on hb5'.out bs); have hp2_2 := Lib.hid hp; clear hp hb bs)
    | (go_at_call 18; (with_reducible refine Calls.mono (hof3.out _ _ (Has.new _ _ _)) ?_); rintro e w7 ⟨⟨D3, d3, rfl, hp⟩, hb⟩; have bs := below_on ((Below.refl w6.heap.size w6).alloc (Nat.le_refl _) (.cells #[.string ⟨#[104, 111, 115, 116]⟩, .string ⟨#[120]⟩] 9)) hb; have hb7' := Lib.hid (below_on hb6'.out bs); have hp3_3 := Lib.hid hp; have hp2_3 := Lib.hid (hp2_2.out.below bs); clear hp hb bs)
    | (go_at_call 18; (with_reducible refine Calls.mono (hof4.out _ _ (Has.new _ _ _)) ?_); rintro e w8 ⟨⟨D4, d4, rfl, hp⟩, hb⟩; have bs := below_on ((Below.refl w7.heap.size w7).alloc (Nat.le_refl _) (.cells #[.string ⟨#[104, 111, 115, 116]⟩, .string ⟨#[120]⟩] 9)) hb; have hb8' := Lib.hid (below_on hb7'.out bs); have hp4_4 := Lib.hid hp; have hp2_4 := Lib.hid (hp2_3.out.below bs); have hp3_4 := Lib.hid (hp3_3.out.below bs); clear hp hb bs)
    | (go_at_call 18; (with_reducible refine Calls.mono (hof5.out _ _ (Has.new _ _ _)) ?_); rintro e w9 ⟨⟨D5, d5, rfl, hp⟩, hb⟩; have bs := below_on ((Below.refl w8.heap.size w8).alloc (Nat.le_refl _) (.cells #[.string ⟨#[97, 99, 99, 101, 112, 116]⟩, .string ⟨#[116, 101, 120, 116, 47, 104, 116, 109, 108]⟩] 9)) hb; have hb9' := Lib.hid (below_on hb8'.out bs); have hp5_5 := Lib.hid hp; have hp2_5 := Lib.hid (hp2_4.out.below bs); have hp3_5 := Lib.hid (hp3_4.out.below bs); have hp4_5 := Lib.hid (hp4_4.out.below bs); clear hp hb bs)
    | (go_at_call 18; (with_reducible refine Calls.mono (hof6.out _ _ (Has.new _ _ _)) ?_); rintro e w10 ⟨⟨D6, d6, rfl, hp⟩, hb⟩; have bs := below_on ((Below.refl w9.heap.size w9).alloc (Nat.le_refl _) (.cells #[.string ⟨#[97, 99, 99, 101, 112, 116]⟩, .string ⟨#[116, 101, 120, 116, 47, 104, 116, 109, 108]⟩] 9)) hb; have hb10' := Lib.hid (below_on hb9'.out bs); have hp6_6 := Lib.hid hp; have hp2_6 := Lib.hid (hp2_5.out.below bs); have hp3_6 := Lib.hid (hp3_5.out.below bs); have hp4_6 := Lib.hid (hp4_5.out.below bs); have hp5_6 := Lib.hid (hp5_5.out.below bs); clear hp hb bs))
  have k11 := Has.new w10 28 #[.string ⟨#[71, 69, 84, 32, 47, 97, 32, 72, 84, 84, 80, 47, 49, 46, 49]⟩, .slice none 0 0, .string ⟨#[80, 79, 83, 84, 32, 47, 97, 32, 72, 84, 84, 80, 47, 49, 46, 49]⟩, .slice D2 1 d2, .string ⟨#[71, 69, 84, 32, 47, 97, 32, 72, 84, 84, 80, 47, 50, 46, 48]⟩, .slice D3 1 d3, .string ⟨#[71, 69, 84, 32, 97, 32, 72, 84, 84, 80, 47, 49, 46, 49]⟩, .slice D4 1 d4, .string ⟨#[71, 69, 84, 32, 47, 97, 32, 72, 84, 84, 80, 47, 49, 46, 48]⟩, .slice D5 1 d5, .string ⟨#[71, 69, 84, 32, 47, 104, 101, 97, 108, 116, 104, 32, 72, 84, 84, 80, 47, 49, 46, 48]⟩, .slice D6 1 d6]
  have hB11 : Below w10.heap.size w10 (w10.alloc (.cells #[.string ⟨#[71, 69, 84, 32, 47, 97, 32, 72, 84, 84, 80, 47, 49, 46, 49]⟩, .slice none 0 0, .string ⟨#[80, 79, 83, 84, 32, 47, 97, 32, 72, 84, 84, 80, 47, 49, 46, 49]⟩, .slice D2 1 d2, .string ⟨#[71, 69, 84, 32, 47, 97, 32, 72, 84, 84, 80, 47, 50, 46, 48]⟩, .slice D3 1 d3, .string ⟨#[71, 69, 84, 32, 97, 32, 72, 84, 84, 80, 47, 49, 46, 49]⟩, .slice D4 1 d4, .string ⟨#[71, 69, 84, 32, 47, 97, 32, 72, 84, 84, 80, 47, 49, 46, 48]⟩, .slice D5 1 d5, .string ⟨#[71, 69, 84, 32, 47, 104, 101, 97, 108, 116, 104, 32, 72, 84, 84, 80, 47, 49, 46, 48]⟩, .slice D6 1 d6] 28)) := (Below.refl _ _).alloc (Nat.le_refl _) _
  obtain ⟨w11, hw11⟩ : ∃ w11, w10.alloc (.cells #[.string ⟨#[71, 69, 84, 32, 47, 97, 32, 72, 84, 84, 80, 47, 49, 46, 49]⟩, .slice none 0 0, .string ⟨#[80, 79, 83, 84, 32, 47, 97, 32, 72, 84, 84, 80, 47, 49, 46, 49]⟩, .slice D2 1 d2, .string ⟨#[71, 69, 84, 32, 47, 97, 32, 72, 84, 84, 80, 47, 50, 46, 48]⟩, .slice D3 1 d3, .string ⟨#[71, 69, 84, 32, 97, 32, 72, 84, 84, 80, 47, 49, 46, 49]⟩, .slice D4 1 d4, .string ⟨#[71, 69, 84, 32, 47, 97, 32, 72, 84, 84, 80, 47, 49, 46, 48]⟩, .slice D5 1 d5, .string ⟨#[71, 69, 84, 32, 47, 104, 101, 97, 108, 116, 104, 32, 72, 84, 84, 80, 47, 49, 46, 48]⟩, .slice D6 1 d6] 28) = w11 := ⟨_, rfl⟩
  rw [hw11] at k11 hB11
  have k12 := Has.new w11 3 #[.int .i64 400, .int .i64 405, .int .i64 505, .int .i64 400, .int .i64 406, .int .i64 200]
  have hB12 : Below w11.heap.size w11 (w11.alloc (.cells #[.int .i64 400, .int .i64 405, .int .i64 505, .int .i64 400, .int .i64 406, .int .i64 200] 3)) := (Below.refl _ _).alloc (Nat.le_refl _) _
  obtain ⟨w12, hw12⟩ : ∃ w12, w11.alloc (.cells #[.int .i64 400, .int .i64 405, .int .i64 505, .int .i64 400, .int .i64 406, .int .i64 200] 3) = w12 := ⟨_, rfl⟩
  rw [hw12] at k12 hB12
  have hz11 : w11.heap.size = w10.heap.size + 1 := by rw [← hw11, World.size_alloc]
  rw [hz11] at k12
  try rw [hw11]
  try rw [hw12]
  have k11' := Lib.hid (k11.below hB12 k11.lt)
  have k12' := Lib.hid k12
  have hbq := below_on hB11 hB12
  have hb12' := Lib.hid (below_on hb10'.out hbq)
  have hq2 := Lib.hid (hp2_6.out.below hbq)
  have hq3 := Lib.hid (hp3_6.out.below hbq)
  have hq4 := Lib.hid (hp4_6.out.below hbq)
  have hq5 := Lib.hid (hp5_6.out.below hbq)
  have hq6 := Lib.hid (hp6_6.out.below hbq)
  clear k11 k12 hB11 hB12 hbq hw11 hw12
  go_loopw [6, 7, 8] (fun x _ _ W => ∃ i : Nat, i ≤ 6 ∧ x = .int .i64 (i : Int) ∧ Below w12.heap.size w12 W) (fun x _ _ _ => 6 - (intOf x).toNat)
  case atStart => exact ⟨0, by omega, rfl, Below.refl _ _⟩
  case round =>
    obtain ⟨i, hi, rfl, hb⟩ := hrel
    have hb' := Lib.hid hb
    have h11 := k11'.out.below hb k11'.out.lt
    have h12 := k12'.out.below hb k12'.out.lt
    have hTr := Lib.hid (hT'.out.below (below_on hb12'.out hb))
    clear hb
    rcases (by omega : i = 0 ∨ i = 1 ∨ i = 2 ∨ i = 3 ∨ i = 4 ∨ i = 5 ∨ i = 6) with rfl | rfl | rfl | rfl | rfl | rfl | rfl
    · have y0 := h11.cell 0
      have y1 := h11.cell 1
      have y2 := fun W (hW : Below wr.heap.size wr W) => (h12.below hW h12.lt).cell 0
      have hst := Lib.hid (hs1.out none 0 wr hTr.out (fun h => absurd h (by decide)))
      have y2' := Lib.hid y2
      clear h11 h12 y2
      simp only [Int.cast_ofNat_Int]
      go_wp2_with (first
        | (go_at_call 19; (with_reducible refine Calls.mono hst.out ?_); rintro e w14 ⟨rfl, hb14⟩; have y3 := y2'.out _ hb14; have hb14' := Lib.hid (below_on hb'.out hb14); clear hb14)
        | (go_at_call 15; (with_reducible refine Calls.mono (hnum.out _ _) ?_); rintro e w9 ⟨rfl, hw9⟩; obtain rfl := hw9.symm))
      exact ⟨⟨1, by omega, rfl, hb14'.out⟩, by simp [intOf]⟩
    · have y0 := h11.cell 2
      have y1 := h11.cell 3
      have y2 := fun W (hW : Below wr.heap.size wr W) => (h12.below hW h12.lt).cell 1
      have hst := Lib.hid (hs2.out D2 d2 wr hTr.out (hq2.out.below hb'.out))
      have y2' := Lib.hid y2
      clear h11 h12 y2
      simp only [Int.cast_ofNat_Int]
      go_wp2_with (first
        | (go_at_call 19; (with_reducible refine Calls.mono hst.out ?_); rintro e w14 ⟨rfl, hb14⟩; have y3 := y2'.out _ hb14; have hb14' := Lib.hid (below_on hb'.out hb14); clear hb14)
        | (go_at_call 15; (with_reducible refine Calls.mono (hnum.out _ _) ?_); rintro e w9 ⟨rfl, hw9⟩; obtain rfl := hw9.symm))
      exact ⟨⟨2, by omega, rfl, hb14'.out⟩, by simp [intOf]⟩
    · have y0 := h11.cell 4
      have y1 := h11.cell 5
      have y2 := fun W (hW : Below wr.heap.size wr W) => (h12.below hW h12.lt).cell 2
      have hst := Lib.hid (hs3.out D3 d3 wr hTr.out (hq3.out.below hb'.out))
      have y2' := Lib.hid y2
      clear h11 h12 y2
      simp only [Int.cast_ofNat_Int]
      go_wp2_with (first
        | (go_at_call 19; (with_reducible refine Calls.mono hst.out ?_); rintro e w14 ⟨rfl, hb14⟩; have y3 := y2'.out _ hb14; have hb14' := Lib.hid (below_on hb'.out hb14); clear hb14)
        | (go_at_call 15; (with_reducible refine Calls.mono (hnum.out _ _) ?_); rintro e w9 ⟨rfl, hw9⟩; obtain rfl := hw9.symm))
      exact ⟨⟨3, by omega, rfl, hb14'.out⟩, by simp [intOf]⟩
    · have y0 := h11.cell 6
      have y1 := h11.cell 7
      have y2 := fun W (hW : Below wr.heap.size wr W) => (h12.below hW h12.lt).cell 3
      have hst := Lib.hid (hs4.out D4 d4 wr hTr.out (hq4.out.below hb'.out))
      have y2' := Lib.hid y2
      clear h11 h12 y2
      simp only [Int.cast_ofNat_Int]
      go_wp2_with (first
        | (go_at_call 19; (with_reducible refine Calls.mono hst.out ?_); rintro e w14 ⟨rfl, hb14⟩; have y3 := y2'.out _ hb14; have hb14' := Lib.hid (below_on hb'.out hb14); clear hb14)
        | (go_at_call 15; (with_reducible refine Calls.mono (hnum.out _ _) ?_); rintro e w9 ⟨rfl, hw9⟩; obtain rfl := hw9.symm))
      exact ⟨⟨4, by omega, rfl, hb14'.out⟩, by simp [intOf]⟩
    · have y0 := h11.cell 8
      have y1 := h11.cell 9
      have y2 := fun W (hW : Below wr.heap.size wr W) => (h12.below hW h12.lt).cell 4
      have hst := Lib.hid (hs5.out D5 d5 wr hTr.out (hq5.out.below hb'.out))
      have y2' := Lib.hid y2
      clear h11 h12 y2
      simp only [Int.cast_ofNat_Int]
      go_wp2_with (first
        | (go_at_call 19; (with_reducible refine Calls.mono hst.out ?_); rintro e w14 ⟨rfl, hb14⟩; have y3 := y2'.out _ hb14; have hb14' := Lib.hid (below_on hb'.out hb14); clear hb14)
        | (go_at_call 15; (with_reducible refine Calls.mono (hnum.out _ _) ?_); rintro e w9 ⟨rfl, hw9⟩; obtain rfl := hw9.symm))
      exact ⟨⟨5, by omega, rfl, hb14'.out⟩, by simp [intOf]⟩
    · have y0 := h11.cell 10
      have y1 := h11.cell 11
      have y2 := fun W (hW : Below wr.heap.size wr W) => (h12.below hW h12.lt).cell 5
      have hst := Lib.hid (hs6.out D6 d6 wr hTr.out (hq6.out.below hb'.out))
      have y2' := Lib.hid y2
      clear h11 h12 y2
      simp only [Int.cast_ofNat_Int]
      go_wp2_with (first
        | (go_at_call 19; (with_reducible refine Calls.mono hst.out ?_); rintro e w14 ⟨rfl, hb14⟩; have y3 := y2'.out _ hb14; have hb14' := Lib.hid (below_on hb'.out hb14); clear hb14)
        | (go_at_call 15; (with_reducible refine Calls.mono (hnum.out _ _) ?_); rintro e w9 ⟨rfl, hw9⟩; obtain rfl := hw9.symm))
      exact ⟨⟨6, by omega, rfl, hb14'.out⟩, by simp [intOf]⟩
    · clear h11 h12
      simp only [Int.cast_ofNat_Int]
      have hr := Lib.hid (hrf.out wr)
      go_wp2_with (go_at_call 20; (with_reducible refine Calls.mono hr.out ?_); rintro e w14 ⟨rfl, hb14⟩; have hb14' := Lib.hid (below_on hb'.out hb14); clear hb14)
      go_ret
      exact ⟨rfl, below_on hb12'.out hb14'.out⟩
end Go.Proofs.YtbmemkbfignlaaaGreatDoor
