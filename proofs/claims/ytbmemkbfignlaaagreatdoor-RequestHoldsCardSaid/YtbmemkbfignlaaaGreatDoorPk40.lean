import Derived.Test.YtbmemkbfignlaaaGreatDoorPk29
import Derived.DeepKeys
import Derived.Laws.StructEq
import Derived.Test.YtbmemkbfignlaaaGreatDoorPk39
import Derived.Test.YtbmemkbfignlaaaGreatDoorPk17
namespace Go.Proofs.YtbmemkbfignlaaaGreatDoor
open Go.RowKit

/-! ## Ranges are small; one is the same as itself -/
namespace Ac
theorem pars_few : ∀ {ps : List (List UInt8)} {k : Nat} {x : Nat × Nat}, pars k ps = some x → x.1 ≤ k + ps.length
  | [], k, x, h => by
    injection h with h
    subst h
    exact Nat.le_refl _
  | y :: ps, k, x, h => by
    unfold pars at h
    split at h
    · have := pars_few h
      simp; omega
    · split at h
      · cases h
      · split at h
        · split at h
          · cases h
          · split at h
            · injection h with h
              subst h
              simp
            · cases h
        · have := pars_few h
          simp; omega
theorem one_few {t : List UInt8} {r : Rg} (h : one t = some r) : r.ty.length ≤ t.length ∧ r.sub.length ≤ t.length ∧ r.params ≤ t.length + 1 := by
  unfold one at h
  have hm := sp_mem (c := 59) (by decide) false t
  have hl := sp_len (c := 59) (by decide) false t
  cases hs : sp 59 false t with
  | nil => exact absurd hs (sp_ne _ _ _)
  | cons p ps =>
    rw [hs] at h hm hl
    simp only [List.map_cons] at h
    have hp := hm p List.mem_cons_self
    have ht := trim_len p
    have e := congrArg List.length (List.takeWhile_append_dropWhile (p := (· != (47 : UInt8))) (l := trim p))
    rw [List.length_append] at e
    split at h
    · cases h
    · rename_i c u hd
      rw [hd, List.length_cons] at e
      split at h
      · cases hq : pars 0 (ps.map trim) with
        | none => rw [hq] at h; cases h
        | some x =>
          rw [hq] at h
          injection h with h
          subst h
          have := pars_few hq
          rw [List.length_map] at this
          simp only [lower, List.length_map] at hl ⊢
          simp at hl
          omega
      · cases h
theorem items_len {s p : List UInt8} (h : p ∈ items s) : p.length ≤ s.length := by
  obtain ⟨x, hx, rfl⟩ := List.mem_map.1 (List.mem_filter.1 h).1
  exact Nat.le_trans (trim_len x) (sp_mem (by decide) false s x hx)
theorem allO_from {α β : Type} {f : α → Option β} : ∀ {l : List α} {m : List β}, allO f l = some m → ∀ y ∈ m, ∃ x ∈ l, f x = some y
  | [], m, h, y, hy => by
    injection h with h
    subst h
    cases hy
  | a :: l, m, h, y, hy => by
    unfold allO at h
    split at h
    · rename_i b n h1 h2
      injection h with h
      subst h
      rcases List.mem_cons.1 hy with rfl | hy
      · exact ⟨a, List.mem_cons_self, h1⟩
      · obtain ⟨x, hx, hf⟩ := allO_from h2 y hy
        exact ⟨x, List.mem_cons_of_mem _ hx, hf⟩
    · cases h
theorem allO_len {α β : Type} {f : α → Option β} : ∀ {l : List α} {m : List β}, allO f l = some m → m.length = l.length
  | [], m, h => by
    injection h with h
    subst h
    rfl
  | a :: l, m, h => by
    unfold allO at h
    split at h
    · rename_i b n h1 h2
      injection h with h
      subst h
      simp [allO_len h2]
    · cases h
theorem list_few {s : List UInt8} {l : List Rg} (h : list s = some l) : l.length ≤ s.length + 1 ∧ ∀ r ∈ l, r.ty.length ≤ s.length ∧ r.sub.length ≤ s.length ∧ r.params ≤ s.length + 1 ∧ r.quality ≤ 1000 := by
  have hq := list_le h
  unfold list at h
  split at h
  · refine ⟨?_, fun r hr => ?_⟩
    · rw [allO_len h]
      refine Nat.le_trans (List.length_filter_le _ _) ?_
      rw [List.length_map]
      exact sp_len (by decide) false s
    · obtain ⟨x, hx, hf⟩ := allO_from h r hr
      have h1 := one_few hf
      have h2 := items_len hx
      have h3 := hq r hr
      omega
  · cases h
end Ac
theorem rg_lits (x : Ac.Rg) (h1 : x.ty.length ≤ 100000) (h2 : x.sub.length ≤ 100000) (h3 : x.params ≤ 100001) (h4 : x.quality ≤ 1000) : Tryz.prog.keyLits 3 116 (rgC x) = some [.string x.ty, .string x.sub, .int .i64 (x.params : Int), .int .i64 (x.quality : Int)] := by
  have k1 : Tryz.prog.cellsOf 9 = 1 := by kernel_rfl
  have k3 : Tryz.prog.cellsOf 3 = 1 := by kernel_rfl
  have k2 : Tryz.prog.cellsOf 116 = 4 := by kernel_rfl
  have z : ∀ a : List UInt8, a.length ≤ 100000 → (⟨a.toArray⟩ : ByteArray).size ≤ maxLen := fun a ha => by
    show a.toArray.size ≤ _
    simp [maxLen]; omega
  have z1 := z _ h1
  have z2 := z _ h2
  have m1 : IntKind.i64.min = -9223372036854775808 := by decide
  have m2 : IntKind.i64.max = 9223372036854775807 := by decide
  have i1 : (Lit.int .i64 (x.params : Int)).wf = true := by simp [Lit.wf, m1, m2]; omega
  have i2 : (Lit.int .i64 (x.quality : Int)).wf = true := by simp [Lit.wf, m1, m2]; omega
  unfold rgC
  simp [Program.keyLits, Tryz.underlying116, Tryz.underlying9, Tryz.underlying3, k1, k2, k3, z1, z2, i1, i2]
theorem rg_equal (x : Ac.Rg) (h1 : x.ty.length ≤ 100000) (h2 : x.sub.length ≤ 100000) (h3 : x.params ≤ 100001) (h4 : x.quality ≤ 1000) (w : World) :
    (Op.equalIn 10000 116 (.agg #[.string ⟨x.ty.toArray⟩, .string ⟨x.sub.toArray⟩, .int .i64 (x.params : Int), .int .i64 (x.quality : Int)]) (.agg #[.string ⟨x.ty.toArray⟩, .string ⟨x.sub.toArray⟩, .int .i64 (x.params : Int), .int .i64 (x.quality : Int)])).run Tryz.prog w = .ok true w := by
  obtain ⟨r, hr, hiff⟩ := run_equalIn_deep (P := Tryz.prog) 9997 3 116 (by kernel_rfl) w 3 3 (.agg #[.string ⟨x.ty.toArray⟩, .string ⟨x.sub.toArray⟩, .int .i64 (x.params : Int), .int .i64 (x.quality : Int)]) (.agg #[.string ⟨x.ty.toArray⟩, .string ⟨x.sub.toArray⟩, .int .i64 (x.params : Int), .int .i64 (x.quality : Int)]) _ _ (by kernel_rfl) (by kernel_rfl) (rg_lits x h1 h2 h3 h4) (rg_lits x h1 h2 h3 h4)
  rw [hr]
  rw [show r = true from hiff.2 rfl]
end Go.Proofs.YtbmemkbfignlaaaGreatDoor

namespace Go.Proofs.YtbmemkbfignlaaaGreatDoor
open Go.RowKit Go.Shelf
attribute [local go_sem] Oper.semAt_some

/-! ## The quality of a type -/
theorem allA_len {α β : Type} {f : α → Option β} : ∀ {l : List α} {m : List β}, Ac.allO f l = some m → m.length = l.length
  | [], m, h => by
    injection h with h
    subst h; rfl
  | x :: l, m, h => by
    unfold Ac.allO at h
    split at h
    · rename_i a b h1 h2
      injection h with h
      subst h
      simp [allA_len h2]
    · cases h
theorem list_len {s : List UInt8} {l : List Ac.Rg} (h : Ac.list s = some l) : l.length ≤ s.length + 1 := by
  unfold Ac.list at h
  split at h
  · rw [allA_len h]; exact Ac.items_many s
  · cases h
set_option maxRecDepth 100000 in
set_option maxHeartbeats 4000000 in
theorem qualA_any (s k u : List UInt8) (w : World) (hT : TabA w) (hs : s.length ≤ 500000) (hk : k ≠ [42]) (hu : u ≠ [42]) :
    Calls Tryz.prog 171 #[.string ⟨s.toArray⟩, .string ⟨k.toArray⟩, .string ⟨u.toArray⟩] w fun e w' => e = .returned (.tuple #[.int .i64 (((Ac.quality s k u).getD 0 : Nat) : Int), .int .i64 (errA (Ac.quality s k u))]) ∧ Below w.heap.size w w' := by
  obtain ⟨n, hn⟩ : ∃ n, w.heap.size = n := ⟨_, rfl⟩
  obtain ⟨wa, hwa⟩ : ∃ wa, w.alloc (.cells #[.string ⟨k.toArray⟩] 9) = wa := ⟨_, rfl⟩
  have za0 : Has wa n 9 #[.string ⟨k.toArray⟩] := by rw [← hwa, ← hn]; exact Has.new _ _ _
  have hza : wa.heap.size = n + 1 := by rw [← hwa, World.size_alloc, hn]
  obtain ⟨wb, hwb⟩ : ∃ wb, wa.alloc (.cells #[.string ⟨u.toArray⟩] 9) = wb := ⟨_, rfl⟩
  have zb1 : Has wb (n + 1) 9 #[.string ⟨u.toArray⟩] := by rw [← hwb, ← hza]; exact Has.new _ _ _
  have zb0 : Has wb n 9 #[.string ⟨k.toArray⟩] := by rw [← hwb]; exact za0.alloc _
  have hBb : Below w.heap.size w wb := by
    rw [← hwb, ← hwa]
    exact ((Below.refl _ _).alloc (Nat.le_refl _) _).alloc (by simp) _
  have hp := parseA_any s wb (hT.below hBb) hs
  obtain ⟨o, ho⟩ : ∃ o, Ac.list s = o := ⟨_, rfl⟩
  rw [ho] at hp
  unfold RgsR at hp
  have hBb' := Lib.hid hBb
  have zb0' := Lib.hid zb0
  have zb1' := Lib.hid zb1
  clear hBb zb0 zb1 za0 hT
  cases o with
  | none =>
    have hq := Lib.hid (show Ac.quality s k u = none by unfold Ac.quality; rw [ho]; rfl)
    have hp' := Lib.hid hp
    unfold errA orA at hp'
    simp only [Option.isSome_none, Option.getD_none, List.length_nil, Bool.false_eq_true, if_false] at hp'
    clear hp ho
    go_enter Tryz.func171, Tryz.ntmps171
    go_wp2_with (go_at_call 183; (with_reducible refine Calls.mono hp'.out ?_); rintro e w3 ⟨⟨A3, c3, rfl, -⟩, hb3⟩; have hb3' := Lib.hid hb3; clear hb3)
    go_ret2
    refine ⟨by rw [hq.out]; rfl, ?_⟩
    first
    | exact hBb'.out.trans (hb3'.out.mono hBb'.out.size)
    | (rw [← hn]; exact hBb'.out.trans (hb3'.out.mono hBb'.out.size))
  | some l =>
    have hll := list_len ho
    unfold errA orA at hp
    simp only [Option.isSome_some, Option.getD_some, if_true] at hp
    by_cases hl0 : l = []
    · subst hl0
      have hq := Lib.hid (show Ac.quality s k u = some 1000 by unfold Ac.quality; rw [ho]; rfl)
      have hp' := Lib.hid hp
      simp only [List.length_nil] at hp'
      clear hp ho
      go_enter Tryz.func171, Tryz.ntmps171
      go_wp2_with (go_at_call 183; (with_reducible refine Calls.mono hp'.out ?_); rintro e w3 ⟨⟨A3, c3, rfl, -⟩, hb3⟩; have hb3' := Lib.hid hb3; clear hb3)
      go_ret2
      refine ⟨by rw [hq.out]; rfl, ?_⟩
      first
      | exact hBb'.out.trans (hb3'.out.mono hBb'.out.size)
      | (rw [← hn]; exact hBb'.out.trans (hb3'.out.mono hBb'.out.size))
    · have hq := Lib.hid (show Ac.quality s k u = some (bestR (fun r => fitP r k u) 0 rg0 l).quality by
        unfold Ac.quality
        rw [ho]
        show some (if l = [] then 1000 else Ac.best k u 0 0 l) = _
        rw [if_neg hl0, ← best_eq hk hu l 0 rg0]
        rfl)
      have hlp : 0 < l.length := List.length_pos_iff.2 hl0
      have hne : ((l.length : Int) == 0) = false := by rw [beq_eq_false_iff_ne]; omega
      have hne2 : ¬ l.length = 0 := by omega
      have hlm : l.length ≤ 1000000 := by omega
      have hbe := Lib.hid (fun A c W hk0 hu0 hR => best_any k u n (n + 1) A c l W hk0 hu0 hlm hR)
      unfold rgV rgC at hbe
      have hfd : ∀ (a b c d : Value) (W : World), (Instr.field 116 (.agg #[a, b, c, d]) 3).run Tryz.prog W = .ok d W := fun _ _ _ _ _ => by kernel_rfl
      have hp' := Lib.hid hp
      clear hp ho hl0
      generalize bestR (fun r => fitP r k u) 0 rg0 l = q at *
      go_enter Tryz.func171, Tryz.ntmps171
      go_wp2_with (first
        | (go_at_call 183; (with_reducible refine Calls.mono hp'.out ?_); rintro e w3 ⟨⟨A3, c3, rfl, hR⟩, hb3⟩; have hb3' := Lib.hid hb3; have hR' := Lib.hid hR; have kk := Lib.hid (zb0'.out.below hb3 zb0'.out.lt); have ku := Lib.hid (zb1'.out.below hb3 zb1'.out.lt); clear hb3 hR)
        | (go_at_call 186; (with_reducible refine Calls.mono (hbe.out _ _ _ kk.out ku.out hR'.out) ?_); rintro e w4 ⟨rfl, hb4⟩; have hb4' := Lib.hid (below_on hb3'.out hb4); clear hb4))
      go_ret2
      refine ⟨by rw [hq.out]; rfl, ?_⟩
      first
      | exact hBb'.out.trans (hb4'.out.mono hBb'.out.size)
      | (rw [← hn]; exact hBb'.out.trans (hb4'.out.mono hBb'.out.size))
set_option maxRecDepth 100000 in
theorem takesA_any (s k u : List UInt8) (w : World) (hT : TabA w) (hs : s.length ≤ 500000) (hk : k ≠ [42]) (hu : u ≠ [42]) :
    Calls Tryz.prog 145 #[.string ⟨s.toArray⟩, .string ⟨k.toArray⟩, .string ⟨u.toArray⟩] w fun e w' => e = .returned (.bool (decide (0 < (Ac.quality s k u).getD 0))) ∧ Below w.heap.size w w' := by
  have h1 := qualA_any s k u w hT hs hk hu
  obtain ⟨o, ho⟩ : ∃ o, Ac.quality s k u = o := ⟨_, rfl⟩
  rw [ho] at h1 ⊢
  clear ho hT
  cases o with
  | none =>
    unfold errA at h1
    simp only [Option.isSome_none, Option.getD_none, Bool.false_eq_true, if_false] at h1
    have h1' := Lib.hid h1
    clear h1
    go_enter Tryz.func145, Tryz.ntmps145
    go_wp2_with (go_at_call 171; (with_reducible refine Calls.mono h1'.out ?_); rintro e w1 ⟨rfl, hb1⟩; have hb1' := Lib.hid hb1; clear hb1)
    go_ret
    exact ⟨rfl, hb1'.out⟩
  | some q =>
    unfold errA at h1
    simp only [Option.isSome_some, Option.getD_some, if_true] at h1 ⊢
    have h1' := Lib.hid h1
    clear h1
    have hb : decide (0 < q) = decide ((0 : Int) < (q : Int)) := by rw [decide_eq_decide]; omega
    rw [hb]
    go_enter Tryz.func145, Tryz.ntmps145
    go_wp2_with (go_at_call 171; (with_reducible refine Calls.mono h1'.out ?_); rintro e w1 ⟨rfl, hb1⟩; have hb1' := Lib.hid hb1; clear hb1)
    go_ret
    exact ⟨rfl, hb1'.out⟩
end Go.Proofs.YtbmemkbfignlaaaGreatDoor

namespace Go.Proofs.YtbmemkbfignlaaaGreatDoor
open Go.RowKit Go.Shelf
attribute [local go_sem] Oper.semAt_some

/-! ## Parse, Decode -/
theorem Txs.apart {W : World} {A : Option Addr} {ls : List (List UInt8)} {k : Nat} {t : TypeId} {cs : Array Value} (h : Txs W A ls) (hk : Has W k t cs) (hcs : ∀ (j : Nat) x, cs[j]? ≠ some (.string x)) : 0 < ls.length → ∀ b o, A = some ⟨b, o, none⟩ → b ≠ k := by
  intro h0 b o e
  obtain ⟨b', o', e', _, hc⟩ := h h0
  rw [e] at e'
  injection e' with e'
  injection e' with e1 e2
  subst e1 e2
  rintro rfl
  have := hc 0 ls[0] (List.getElem?_eq_getElem h0)
  rw [hk.cell] at this
  exact hcs _ _ this
theorem Prs.apart {W : World} {A : Option Addr} {ls : List PairL} {k : Nat} {t : TypeId} {cs : Array Value} (h : Prs W A ls) (hk : Has W k t cs) (hcs : ∀ (j : Nat) x, cs[j]? ≠ some (.string x)) : 0 < ls.length → ∀ b o, A = some ⟨b, o, none⟩ → b ≠ k := by
  intro h0 b o e
  obtain ⟨b', o', e', _, hc⟩ := h h0
  rw [e] at e'
  injection e' with e'
  injection e' with e1 e2
  subst e1 e2
  rintro rfl
  have := (hc 0 ls[0] (List.getElem?_eq_getElem h0)).1
  rw [hk.cell] at this
  exact hcs _ _ this
theorem Txs.over {g : Nat} {w W : World} {A : Option Addr} {ls : List (List UInt8)} (h : Txs w A ls) (hb : Grew g w W) (hA : 0 < ls.length → ∀ b o, A = some ⟨b, o, none⟩ → b ≠ g) : Txs W A ls := fun h0 => by
  obtain ⟨b, o, rfl, hlt, hc⟩ := h h0
  have hne := hA h0 b o rfl
  exact ⟨b, o, rfl, Nat.lt_of_lt_of_le hlt hb.size, fun i x hx => (World.cell?_of_block (hb.block b hlt hne)).trans (hc i x hx)⟩
theorem Prs.over {g : Nat} {w W : World} {A : Option Addr} {ls : List PairL} (h : Prs w A ls) (hb : Grew g w W) (hA : 0 < ls.length → ∀ b o, A = some ⟨b, o, none⟩ → b ≠ g) : Prs W A ls := fun h0 => by
  obtain ⟨b, o, rfl, hlt, hc⟩ := h h0
  have hne := hA h0 b o rfl
  exact ⟨b, o, rfl, Nat.lt_of_lt_of_le hlt hb.size, fun i x hx => ⟨(World.cell?_of_block (hb.block b hlt hne)).trans (hc i x hx).1, (World.cell?_of_block (hb.block b hlt hne)).trans (hc i x hx).2⟩⟩
theorem no_int (z : Int) (j : Nat) (x : ByteArray) : (#[Value.int .i64 z] : Array Value)[j]? ≠ some (.string x) := by
  rcases j with _ | j <;> simp
theorem no_slices (a b : Option Addr) (n m c d j : Nat) (x : ByteArray) : (#[Value.slice a n c, Value.slice b m d] : Array Value)[j]? ≠ some (.string x) := by
  rcases j with _ | _ | j <;> simp
/-- A target in a box, its texts apart from another block. -/
def BoxT (b2 e0 : Nat) (t : TgL) (w X : World) : Prop := ∃ A1 c1 A2 c2, Has X b2 32 #[.slice A1 t.1.length c1, .slice A2 t.2.length c2] ∧ Txs X A1 t.1 ∧ Prs X A2 t.2 ∧ (0 < t.1.length → ∀ b o, A1 = some ⟨b, o, none⟩ → b ≠ e0) ∧ (0 < t.2.length → ∀ b o, A2 = some ⟨b, o, none⟩ → b ≠ e0) ∧ Below w.heap.size w X ∧ (∀ b o, A1 = some ⟨b, o, none⟩ → w.heap.size ≤ b) ∧ (∀ b o, A2 = some ⟨b, o, none⟩ → w.heap.size ≤ b)
theorem BoxT.set {b2 e0 : Nat} {t : TgL} {w X : World} (h : BoxT b2 e0 t w X) (hne : b2 ≠ e0) (hle : w.heap.size ≤ e0) (u : Value) : BoxT b2 e0 t w (X.setCell ⟨e0, 0, none⟩ u) := by
  obtain ⟨A1, c1, A2, c2, h1, h2, h3, h4, h5, h6, h7⟩ := h
  have hG := (Grew.refl e0 X).setT 0 u
  exact ⟨A1, c1, A2, c2, hG.has h1 hne, h2.over hG h4, h3.over hG h5, h4, h5, h6.setCell (p := ⟨e0, 0, none⟩) hle u, h7⟩
set_option maxRecDepth 100000 in
set_option maxHeartbeats 4000000 in
theorem parse1_yes (s : List UInt8) (t : TgL) (hp : parseTg s = some t) (hs : s.length ≤ 600000) (b0 b2 e0 : Nat) (w W : World) (hT : TabT W) (h0 : Has W b0 9 #[.string ⟨s.toArray⟩]) (h2 : Has W b2 32 #[.slice none 0 0, .slice none 0 0]) (he : Has W e0 42 #[.int .i64 0]) (hw : Below w.heap.size w W) (hb2 : w.heap.size ≤ b2) (hne : b2 ≠ e0) :
    Calls Tryz.prog 74 #[.pointer (some ⟨b0, 0, none⟩), .pointer (some ⟨b2, 0, none⟩)] W fun r w' => r = .returned (.tuple #[]) ∧ (BoxT b2 e0 t w w' ∧ Grew b2 W w') ∧ Has w' e0 42 #[.int .i64 0] := by
  have hr := Lib.hid (readT_any s W hT hs)
  rw [hp] at hr
  unfold ReadR at hr
  simp only at hr
  have c0 := h0.cell 0
  have h2' := Lib.hid h2
  have he' := Lib.hid he
  have hw' := Lib.hid hw
  clear h0 h2 he hT hp hw
  go_enter Tryz.func74, Tryz.ntmps74
  go_wp2_with (go_at_call 75; (with_reducible refine Calls.mono hr.out ?_); rintro e w3 ⟨⟨v, rfl, A1, c1, A2, c2, rfl, hx, hq, hfr⟩, hb3⟩; have h3 := (h2'.out.below hb3 h2'.out.lt); have k0 := h3.cell 0; have k1 := h3.cell 1; have f0 := h3.free 0; have f1 := h3.free 1; have h3' := Lib.hid h3; have hx' := Lib.hid hx; have hq' := Lib.hid hq; have hb3' := Lib.hid hb3; clear h3 hx hq hb3)
  go_end0
  have hG := ((Grew.refl b2 w3).setT 0 (.slice A1 t.1.length c1)).setT 1 (.slice A2 t.2.length c2)
  have he3 := he'.out.below hb3'.out he'.out.lt
  refine ⟨rfl, ⟨⟨A1, c1, A2, c2, (h3'.out.put 0 _).put 1 _, hx'.out.over hG (hx'.out.apart h3'.out (no_slices _ _ _ _ _ _)), hq'.out.over hG (hq'.out.apart h3'.out (no_slices _ _ _ _ _ _)), hx'.out.apart he3 (no_int 0), hq'.out.apart he3 (no_int 0), ?_, (fun b o e => by have := hfr.1 b o e; have := hw'.out.size; omega), (fun b o e => by have := hfr.2 b o e; have := hw'.out.size; omega)⟩, (Grew.of_below hb3'.out).trans hG⟩, hG.has he3 (fun e => hne e.symm)⟩
  exact ((hw'.out.trans (hb3'.out.mono hw'.out.size)).setCell (p := ⟨b2, 0, none⟩) hb2 _).setCell (p := ⟨b2, 1, none⟩) hb2 _
set_option maxRecDepth 100000 in
set_option maxHeartbeats 4000000 in
theorem parse1_no (s : List UInt8) (hp : parseTg s = none) (hs : s.length ≤ 600000) (b0 b2 e0 : Nat) (w W : World) (hT : TabT W) (h0 : Has W b0 9 #[.string ⟨s.toArray⟩]) (h2 : Has W b2 32 #[.slice none 0 0, .slice none 0 0]) (he : Has W e0 42 #[.int .i64 0]) (hw : Below w.heap.size w W) :
    Calls Tryz.prog 74 #[.pointer (some ⟨b0, 0, none⟩), .pointer (some ⟨b2, 0, none⟩)] W fun r w' => r = gaveE 210 ∧ (Has w' b2 32 #[.slice none 0 0, .slice none 0 0] ∧ Below w.heap.size w w' ∧ Below W.heap.size W w') ∧ Has w' e0 42 #[.int .i64 0] := by
  have hr := Lib.hid (readT_any s W hT hs)
  rw [hp] at hr
  unfold ReadR at hr
  simp only at hr
  have c0 := h0.cell 0
  have h2' := Lib.hid h2
  have he' := Lib.hid he
  have hw' := Lib.hid hw
  clear h0 h2 he hT hp hw
  go_enter Tryz.func74, Tryz.ntmps74
  go_wp2_with (go_at_call 75; (with_reducible refine Calls.mono hr.out ?_); rintro e w3 ⟨rfl, hb3⟩; have hb3' := Lib.hid hb3; clear hb3)
  exact ⟨rfl, rfl, ⟨h2'.out.below hb3'.out h2'.out.lt, hw'.out.trans (hb3'.out.mono hw'.out.size), hb3'.out⟩, he'.out.below hb3'.out he'.out.lt⟩
end Go.Proofs.YtbmemkbfignlaaaGreatDoor

namespace Go.Proofs.YtbmemkbfignlaaaGreatDoor
open Go.RowKit Go.Shelf
attribute [local go_sem] Oper.semAt_some

/-! ## Parse -/
def ParseF (o : Option TgL) (w : World) (e : Ending) (w' : World) : Prop := match o with
  | none => e = .returned tgV0 ∧ Below w.heap.size w w'
  | some t => (∃ A1 c1 A2 c2, e = .returned (.tuple #[.agg #[.slice A1 t.1.length c1, .slice A2 t.2.length c2], .int .i64 0]) ∧ Txs w' A1 t.1 ∧ Prs w' A2 t.2 ∧ (∀ b o, A1 = some ⟨b, o, none⟩ → w.heap.size ≤ b) ∧ (∀ b o, A2 = some ⟨b, o, none⟩ → w.heap.size ≤ b)) ∧ Below w.heap.size w w'
set_option maxRecDepth 100000 in
set_option maxHeartbeats 8000000 in
theorem parseT_any (s : List UInt8) (w : World) (hT : TabT w) (hs : s.length ≤ 600000) : Calls Tryz.prog 54 #[.string ⟨s.toArray⟩] w (ParseF (parseTg s) w) := by
  obtain ⟨n, hn⟩ : ∃ n, w.heap.size = n := ⟨_, rfl⟩
  have z0 : Has (w.alloc (.cells #[.string ⟨s.toArray⟩] 9)) n 9 #[.string ⟨s.toArray⟩] := by rw [← hn]; exact Has.new _ _ _
  obtain ⟨w1, h1⟩ : ∃ w1, w.alloc (.cells #[.string ⟨s.toArray⟩] 9) = w1 := ⟨_, rfl⟩
  have hz1 : w1.heap.size = n + 1 := by rw [← h1, ← hn]; simp
  rw [h1] at z0
  have z1 : Has (w1.alloc (.cells #[.slice none 0 0, .slice none 0 0] 32)) (n + 1) 32 #[.slice none 0 0, .slice none 0 0] := by rw [← hz1]; exact Has.new _ _ _
  have z0b := z0.alloc (.cells #[.slice none 0 0, .slice none 0 0] 32)
  obtain ⟨w2, h2⟩ : ∃ w2, w1.alloc (.cells #[.slice none 0 0, .slice none 0 0] 32) = w2 := ⟨_, rfl⟩
  have hz2 : w2.heap.size = n + 1 + 1 := by rw [← h2, World.size_alloc, hz1]
  rw [h2] at z1 z0b
  have z2 : Has (w2.alloc (.cells #[.slice none 0 0, .slice none 0 0] 32)) (n + 1 + 1) 32 #[.slice none 0 0, .slice none 0 0] := by rw [← hz2]; exact Has.new _ _ _
  have z0c := z0b.alloc (.cells #[.slice none 0 0, .slice none 0 0] 32)
  have z1c := z1.alloc (.cells #[.slice none 0 0, .slice none 0 0] 32)
  obtain ⟨w3, h3⟩ : ∃ w3, w2.alloc (.cells #[.slice none 0 0, .slice none 0 0] 32) = w3 := ⟨_, rfl⟩
  have hz3 : w3.heap.size = n + 1 + 1 + 1 := by rw [← h3, World.size_alloc, hz2]
  rw [h3] at z2 z0c z1c
  have hB : Below w.heap.size w w3 := by
    rw [← h3, ← h2, ← h1]
    exact (((Below.refl _ _).alloc (Nat.le_refl _) _).alloc (by simp) _).alloc (by simp; omega) _
  have e4 : Has (w3.alloc (.cells #[.int .i64 0] 42)) w3.heap.size 42 #[.int .i64 0] := Has.new _ _ _
  have b4 : Below w.heap.size w (w3.alloc (.cells #[.int .i64 0] 42)) := hB.alloc (by omega) _
  have hT4 := hT.below b4
  have hen := enters_of (P := Tryz.prog) Tryz.func74 (by kernel_rfl) rfl
  have hmf : ∀ (fn : Fn) (first cap : Array Value) (w : World), (Instr.makeFunc fn first cap).run Tryz.prog w = .ok (.func fn first cap) w := fun _ _ _ _ => rfl
  obtain ⟨o, ho⟩ : ∃ o, parseTg s = o := ⟨_, rfl⟩
  rw [ho]
  have z1' := Lib.hid z1c
  have hz3' := Lib.hid hz3
  have hB' := Lib.hid hB
  cases o with
  | none =>
    have ht := Lib.hid (tried_no 74 #[.pointer (some ⟨n, 0, none⟩), .pointer (some ⟨n + 1 + 1, 0, none⟩)] 210 w3 (fun X => (Has X (n + 1 + 1) 32 #[.slice none 0 0, .slice none 0 0] ∧ Has X (n + 1) 32 #[.slice none 0 0, .slice none 0 0]) ∧ Below w.heap.size w X) hen
      (fun X u ⟨⟨h1, h3⟩, h2⟩ => ⟨⟨(((Grew.refl w3.heap.size X).setT 0 u).has h1 (by omega)).alloc _, (((Grew.refl w3.heap.size X).setT 0 u).has h3 (by omega)).alloc _⟩, (h2.setCell (p := ⟨w3.heap.size, 0, none⟩) (by show _ ≤ w3.heap.size; omega) u).alloc (by have := h2.size; simp [World.setCell]; omega) _⟩)
      ((parse1_no s ho hs n (n + 1 + 1) w3.heap.size w _ hT4 (z0c.alloc _) (z2.alloc _) e4 b4).mono fun e w' ⟨h1, ⟨h2, h3, h4⟩, h5⟩ => ⟨h1, ⟨⟨h2, (z1c.alloc _).below h4 (z1c.alloc _).lt⟩, h3⟩, h5⟩))
    clear z0 z0b z0c z1 z1c z2 e4 b4 hT4 hT hB hen
    go_enter Tryz.func54, Tryz.ntmps54
    go_wp2_with (go_at_call 73; (with_reducible refine Calls.mono ht.out ?_); rintro e w5 ⟨rfl, ⟨hh5, hh6⟩, hb5⟩; have c0 := hh5.cell 0; have c1 := hh5.cell 1; have d0 := hh6.cell 0; have d1 := hh6.cell 1; have f0 := hh6.free 0; have f1 := hh6.free 1; have hb5' := Lib.hid hb5; have hh6' := Lib.hid hh6; clear hh5 hb5 hh6)
    have y0 : ∀ a b, ((w5.setCell ⟨n + 1, 0, none⟩ a).setCell ⟨n + 1, 1, none⟩ b).cell? ⟨n + 1, 0, none⟩ = some a := fun a b => ((hh6'.out.put 0 a).put 1 b).cell 0
    have y1 : ∀ a b, ((w5.setCell ⟨n + 1, 0, none⟩ a).setCell ⟨n + 1, 1, none⟩ b).cell? ⟨n + 1, 1, none⟩ = some b := fun a b => ((hh6'.out.put 0 a).put 1 b).cell 1
    refine bodyPost_ret (v := tgV0) (by simp only [results, Tryz.results54]; simp [go_sem, y0, y1]; rfl) rfl ⟨rfl, ?_⟩
    exact (hb5'.out.setCell (p := ⟨n + 1, 0, none⟩) (by show _ ≤ n + 1; omega) _).setCell (p := ⟨n + 1, 1, none⟩) (by show _ ≤ n + 1; omega) _
  | some t =>
    have ht := Lib.hid (tried_yes 74 #[.pointer (some ⟨n, 0, none⟩), .pointer (some ⟨n + 1 + 1, 0, none⟩)] w3 (fun X => BoxT (n + 1 + 1) w3.heap.size t w X ∧ Has X (n + 1) 32 #[.slice none 0 0, .slice none 0 0]) hen
      (fun X u ⟨h, h1⟩ => ⟨h.set (by omega) (by omega) u, ((Grew.refl w3.heap.size X).setT 0 u).has h1 (by omega)⟩)
      ((parse1_yes s t ho hs n (n + 1 + 1) w3.heap.size w _ hT4 (z0c.alloc _) (z2.alloc _) e4 b4 (by omega) (by omega)).mono fun e w' ⟨h1, ⟨h2, h3⟩, h4⟩ => ⟨h1, ⟨h2, h3.has (z1c.alloc _) (by omega)⟩, h4⟩))
    clear z0 z0b z0c z1 z1c z2 e4 b4 hT4 hT hB hen
    go_enter Tryz.func54, Tryz.ntmps54
    go_wp2_with (go_at_call 73; (with_reducible refine Calls.mono ht.out ?_); rintro e w5 ⟨rfl, ⟨A1, k1, A2, k2, hh5, hx, hq, -, -, hb5, hfr⟩, hh6⟩; have c0 := hh5.cell 0; have c1 := hh5.cell 1; have d0 := hh6.cell 0; have d1 := hh6.cell 1; have f0 := hh6.free 0; have f1 := hh6.free 1; have hb5' := Lib.hid hb5; have hh6' := Lib.hid hh6; have hx' := Lib.hid hx; have hq' := Lib.hid hq; clear hh5 hb5 hh6 hx hq)
    have y0 : ∀ a b, ((w5.setCell ⟨n + 1, 0, none⟩ a).setCell ⟨n + 1, 1, none⟩ b).cell? ⟨n + 1, 0, none⟩ = some a := fun a b => ((hh6'.out.put 0 a).put 1 b).cell 0
    have y1 : ∀ a b, ((w5.setCell ⟨n + 1, 0, none⟩ a).setCell ⟨n + 1, 1, none⟩ b).cell? ⟨n + 1, 1, none⟩ = some b := fun a b => ((hh6'.out.put 0 a).put 1 b).cell 1
    have hG := ((Grew.refl (n + 1) w5).setT 0 (.slice A1 t.1.length k1)).setT 1 (.slice A2 t.2.length k2)
    refine bodyPost_ret (v := .tuple #[.agg #[.slice A1 t.1.length k1, .slice A2 t.2.length k2], .int .i64 0]) (by simp only [results, Tryz.results54]; simp [go_sem, y0, y1]) rfl ?_
    refine ⟨⟨A1, k1, A2, k2, rfl, hx'.out.over hG (hx'.out.apart hh6'.out (no_slices _ _ _ _ _ _)), hq'.out.over hG (hq'.out.apart hh6'.out (no_slices _ _ _ _ _ _)), hfr⟩, ?_⟩
    exact (hb5'.out.setCell (p := ⟨n + 1, 0, none⟩) (by show _ ≤ n + 1; omega) _).setCell (p := ⟨n + 1, 1, none⟩) (by show _ ≤ n + 1; omega) _
end Go.Proofs.YtbmemkbfignlaaaGreatDoor
