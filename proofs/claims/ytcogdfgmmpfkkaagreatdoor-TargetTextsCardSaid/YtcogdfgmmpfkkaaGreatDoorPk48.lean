import Derived.Test.YtcogdfgmmpfkkaaGreatDoorPk47
import Derived.Deep.CutBlock
import Derived.Deep.Cut
namespace Go.Proofs.YtcogdfgmmpfkkaaGreatDoor
open Go.RowKit
attribute [local go_sem] Oper.semAt_some
attribute [local go_sem] wideF_fn wideF_depth wideF_round

/-! ## The law of TargetTexts, the near case (written by gen11q.py) -/
def getT (o : Option (List UInt8)) : List UInt8 := o.getD []
def getB (o : Option (List UInt8)) : Bool := o.isSome
theorem getV_two (o : Option (List UInt8)) : getV o = .tuple #[.string ⟨(getT o).toArray⟩, .bool (getB o)] := by cases o <;> rfl
theorem get_two (o : Option (List UInt8)) : (o = none → getT o = [] ∧ getB o = false) ∧ ∀ v, o = some v → getT o = v ∧ getB o = true := by
  cases o with
  | none => exact ⟨fun _ => ⟨rfl, rfl⟩, fun v h => by cases h⟩
  | some x => exact ⟨fun h => (by cases h), fun v h => (by obtain rfl := Option.some.inj h; exact ⟨rfl, rfl⟩)⟩
def textT (t : TgL) : List UInt8 := if rightTg t = true then textTg t else []
def textE (t : TgL) : Int := if rightTg t = true then 0 else 2
theorem textV_two (t : TgL) : textV t = .tuple #[.string ⟨(textT t).toArray⟩, .int .i64 (textE t)] := by
  unfold textV textT textE
  split <;> rfl
theorem text_two (t : TgL) : (rightTg t = true → textT t = textTg t ∧ textE t = 0) ∧ (rightTg t = false → textT t = [] ∧ textE t = 2) := by
  unfold textT textE
  constructor <;> intro h <;> simp [h]
set_option maxRecDepth 100000 in
set_option maxHeartbeats 8000000 in
theorem texts_near (hP : TgProg) (A1 A2 B1 B2 : Option Addr) (c1 c2 d1 d2 : Nat) (t o : TgL) (key : List UInt8) (m : Int) (w : World) (ha : ArgT t) (hb : ArgT o) (hft : fewB t = true) (hfo0 : fewB o = true) (hk : key.length ≤ 60) (hT : TabT w) (hx : Txs w A1 t.1) (hq : Prs w A2 t.2) (hy : Txs w B1 o.1) (hr : Prs w B2 o.2) : Calls Tryz.prog 4 #[.agg #[.slice A1 t.1.length c1, .slice A2 t.2.length c2], .agg #[.slice B1 o.1.length d1, .slice B2 o.2.length d2], .string ⟨key.toArray⟩, .int .i64 m] w (BoolR true w) := by
  unfold BoolR
  have hT' := Lib.hid hT
  have hfa := Lib.hid (fun W (k1 : Txs W A1 t.1) (k2 : Prs W A2 t.2) => few_any A1 A2 c1 c2 t W ha k1 k2)
  have hfb := Lib.hid (fun W (k1 : Txs W B1 o.1) (k2 : Prs W B2 o.2) => few_any B1 B2 d1 d2 o W hb k1 k2)
  unfold BoolR at hfa hfb
  have hkt := (((Has.new w 26 #[.slice A1 t.1.length c1, .slice A2 t.2.length c2]).alloc (.cells #[.slice B1 o.1.length d1, .slice B2 o.2.length d2] 26)).alloc (.cells #[.int .i64 m] 3)).alloc (.cells #[.bool false] 4)
  have hko := ((Has.new (w.alloc (.cells #[.slice A1 t.1.length c1, .slice A2 t.2.length c2] 26)) 26 #[.slice B1 o.1.length d1, .slice B2 o.2.length d2]).alloc (.cells #[.int .i64 m] 3)).alloc (.cells #[.bool false] 4)
  have hkm := (Has.new ((w.alloc (.cells #[.slice A1 t.1.length c1, .slice A2 t.2.length c2] 26)).alloc (.cells #[.slice B1 o.1.length d1, .slice B2 o.2.length d2] 26)) 3 #[.int .i64 m]).alloc (.cells #[.bool false] 4)
  have hkr := Has.new (((w.alloc (.cells #[.slice A1 t.1.length c1, .slice A2 t.2.length c2] 26)).alloc (.cells #[.slice B1 o.1.length d1, .slice B2 o.2.length d2] 26)).alloc (.cells #[.int .i64 m] 3)) 4 #[.bool false]
  have hal : Below w.heap.size w ((((w.alloc (.cells #[.slice A1 t.1.length c1, .slice A2 t.2.length c2] 26)).alloc (.cells #[.slice B1 o.1.length d1, .slice B2 o.2.length d2] 26)).alloc (.cells #[.int .i64 m] 3)).alloc (.cells #[.bool false] 4)) := ((((Below.refl w.heap.size w).alloc (Nat.le_refl _) _).alloc (by simp) _).alloc (by simp; omega) _).alloc (by simp; omega) _
  simp only [World.size_alloc] at hko hkm hkr
  obtain ⟨w1, hw1⟩ : ∃ X, (((w.alloc (.cells #[.slice A1 t.1.length c1, .slice A2 t.2.length c2] 26)).alloc (.cells #[.slice B1 o.1.length d1, .slice B2 o.2.length d2] 26)).alloc (.cells #[.int .i64 m] 3)).alloc (.cells #[.bool false] 4) = X := ⟨_, rfl⟩
  rw [hw1] at hkt hko hkm hkr hal
  have hw1' := Lib.hid hw1
  have hx1 := Lib.hid (hx.below hal)
  have hq1 := Lib.hid (hq.below hal)
  have hy1 := Lib.hid (hy.below hal)
  have hr1 := Lib.hid (hr.below hal)
  have hB1 := Lib.hid hal
  have kt1 := Lib.hid hkt
  have ko1 := Lib.hid hko
  have km1 := Lib.hid hkm
  have kr1 := Lib.hid hkr
  have t10 : w1.cell? ⟨w.heap.size, 0, none⟩ = some (.slice A1 t.1.length c1) := hkt.cell 0
  have t11 : w1.cell? ⟨w.heap.size, 1, none⟩ = some (.slice A2 t.2.length c2) := hkt.cell 1
  clear hw1 hkt hko hkm hkr hal hx hq hy hr hT
  have hfw := fewB_fewT hft
  have hfo := fewB_fewT hfo0
  have hText := Lib.hid (fun W hW (k1 : Txs W A1 t.1) (k2 : Prs W A2 t.2) => (show Calls Tryz.prog 16 #[.agg #[.slice A1 t.1.length c1, .slice A2 t.2.length c2]] W fun e w' => e = .returned (.tuple #[.string ⟨(textT t).toArray⟩, .int .i64 (textE t)]) ∧ Below W.heap.size W w' from by rw [← textV_two]; exact hP.text A1 A2 c1 c2 t W hW hfw k1 k2))
  have hRight := Lib.hid (fun W (k1 : Txs W A1 t.1) => refRight_any A1 A2 c1 c2 t W hfw k1)
  have hRText := Lib.hid (fun W (k1 : Txs W A1 t.1) (k2 : Prs W A2 t.2) => refText_any A1 A2 c1 c2 t W hfw k1 k2)
  have hPath := Lib.hid (fun W hW (k1 : Txs W A1 t.1) (k2 : Prs W A2 t.2) => hP.path A1 A2 c1 c2 t W hW hfw k1 k2)
  have hRPath := Lib.hid (fun W (k1 : Txs W A1 t.1) => refPath_any A1 A2 c1 c2 t W hfw k1)
  have hSame := Lib.hid (fun W hW (k1 : Txs W A1 t.1) (k2 : Prs W A2 t.2) (k3 : Txs W B1 o.1) (k4 : Prs W B2 o.2) => hP.same A1 A2 B1 B2 c1 c2 d1 d2 t o W hW hfw hfo k1 k2 k3 k4)
  have hRSame := Lib.hid (fun W (k1 : Txs W A1 t.1) (k2 : Prs W A2 t.2) (k3 : Txs W B1 o.1) (k4 : Prs W B2 o.2) => refSame_any A1 A2 B1 B2 c1 c2 d1 d2 t o W hfw hfo k1 k2 k3 k4)
  have hSelf := Lib.hid (fun W hW (k1 : Txs W A1 t.1) (k2 : Prs W A2 t.2) => hP.same A1 A2 A1 A2 c1 c2 c1 c2 t t W hW hfw hfw k1 k2 k1 k2)
  have hGet := Lib.hid (fun W hW (k1 : Txs W A1 t.1) (k2 : Prs W A2 t.2) => (show Calls Tryz.prog 22 #[.agg #[.slice A1 t.1.length c1, .slice A2 t.2.length c2], .string ⟨key.toArray⟩] W fun e w' => e = .returned (.tuple #[.string ⟨(getT (getQ key t.2)).toArray⟩, .bool (getB (getQ key t.2))]) ∧ Below W.heap.size W w' from by rw [← getV_two]; exact hP.get A1 A2 c1 c2 t key W hW hfw (by omega) k1 k2))
  have htxt := Lib.hid (text_two t)
  have hPairs := Lib.hid (fun W hW (k1 : Txs W A1 t.1) (k2 : Prs W A2 t.2) => hP.pairs A1 A2 c1 c2 t W hW hfw k1 k2)
  unfold StrR at hRText hPath hRPath
  unfold BoolR at hSame hRSame hSelf
  rw [decide_eq_true rfl] at hSelf
  rw [hft] at hfa
  rw [hfo0] at hfb
  have hpairs := Lib.hid (fewB_few hft).2.2.2
  have hn2b : t.2.length ≤ 20 := (fewB_few hft).2.1
  have hkI : ¬ (60 : Int) < (key.length : Int) := by omega
  obtain ⟨og, hog⟩ : ∃ og, getQ key t.2 = og := ⟨_, rfl⟩
  rw [hog] at hGet
  have hog' := Lib.hid hog
  have hgr := Lib.hid (get_two og)
  generalize getT og = vg at *
  generalize getB og = bg at *
  clear hog
  generalize textT t = tx at *
  generalize textE t = te at *
  generalize hn1 : t.1.length = n1 at *
  generalize hn2 : t.2.length = n2 at *
  generalize o.1.length = o1 at *
  generalize o.2.length = o2 at *
  generalize decide (t = o) = bso at *
  clear hft hfo0 ha hb hfw hfo hk hn1
  refine (callsIn_wide (n := 6)).1 ?_
  refine callsIn_of_wp_marks Tryz.func4 rfl trivial ?_ rfl
  refine wpIn_wide.2 ?_
  simp only [Tryz.ntmps4, List.size_toArray, List.length_cons, List.length_nil, Nat.reduceAdd, Nat.reduceSub, Array.replicate_succ, Array.replicate_zero, List.push_toArray, List.append_toArray, List.nil_append, List.cons_append]
  have hnil : ∀ (fn : Fn) (f c : Array Value) (w : World), Sem.run Tryz.prog (binOp BinOp.eql 48 (Value.func fn f c) Value.nilFunc) w = .ok (.bool false) w := fun _ _ _ _ => by kernel_rfl
  go_upto_region 1 with (fail)
  rw [hw1'.out]
  go_upto_region 4 with (first
    | (go_at_call 15; (with_reducible refine Calls.mono (hfa.out _ hx1.out hq1.out) ?_); rintro e w2 ⟨rfl, hb2⟩; have hB2 := Lib.hid (below_on hB1.out hb2); have hx2 := Lib.hid (hx1.out.below hb2); have hq2 := Lib.hid (hq1.out.below hb2); have hy2 := Lib.hid (hy1.out.below hb2); have hr2 := Lib.hid (hr1.out.below hb2); have kt2 := Lib.hid (kt1.out.below hb2 kt1.out.lt); have ko2 := Lib.hid (ko1.out.below hb2 ko1.out.lt); have km2 := Lib.hid (km1.out.below hb2 km1.out.lt); have kr2 := Lib.hid (kr1.out.below hb2 kr1.out.lt); have o20 : w2.cell? ⟨w.heap.size + 1, 0, none⟩ = some (.slice B1 o1 d1) := ko2.out.cell 0; have o21 : w2.cell? ⟨w.heap.size + 1, 1, none⟩ = some (.slice B2 o2 d2) := ko2.out.cell 1; clear hb2)
    | (go_at_call 15; (with_reducible refine Calls.mono (hfb.out _ hy2.out hr2.out) ?_); rintro e w3 ⟨rfl, hb3⟩; have hB3 := Lib.hid (below_on hB2.out hb3); have hx3 := Lib.hid (hx2.out.below hb3); have hq3 := Lib.hid (hq2.out.below hb3); have hy3 := Lib.hid (hy2.out.below hb3); have hr3 := Lib.hid (hr2.out.below hb3); have kt3 := Lib.hid (kt2.out.below hb3 kt2.out.lt); have ko3 := Lib.hid (ko2.out.below hb3 ko2.out.lt); have km3 := Lib.hid (km2.out.below hb3 km2.out.lt); have kr3 := Lib.hid (kr2.out.below hb3 kr2.out.lt); have t30 : w3.cell? ⟨w.heap.size, 0, none⟩ = some (.slice A1 n1 c1) := kt3.out.cell 0; have t31 : w3.cell? ⟨w.heap.size, 1, none⟩ = some (.slice A2 n2 c2) := kt3.out.cell 1; clear hb3)
    | (go_at_call 16; (with_reducible refine Calls.mono (hText.out _ (hT'.out.below hB3.out) hx3.out hq3.out) ?_); rintro e w4 ⟨rfl, hb4⟩; have hB4 := Lib.hid (below_on hB3.out hb4); have hx4 := Lib.hid (hx3.out.below hb4); have hq4 := Lib.hid (hq3.out.below hb4); have hy4 := Lib.hid (hy3.out.below hb4); have hr4 := Lib.hid (hr3.out.below hb4); have kt4 := Lib.hid (kt3.out.below hb4 kt3.out.lt); have ko4 := Lib.hid (ko3.out.below hb4 ko3.out.lt); have km4 := Lib.hid (km3.out.below hb4 km3.out.lt); have kr4 := Lib.hid (kr3.out.below hb4 kr3.out.lt); clear hb4))
  clear hB1 hx1 hq1 hy1 hr1 kt1 ko1 km1 kr1
  clear hB2 hx2 hq2 hy2 hr2 kt2 ko2 km2 kr2 o20 o21
  clear hB3 hx3 hq3 hy3 hr3 kt3 ko3 km3 kr3 t30 t31 t10 t11
  go_cut [86] from 38 to 86 (fun c wx => c = .bool false ∧ Below w4.heap.size w4 wx)
  case first =>
    have v0 := fun (V' : Grown w4) => (kt4.out.below V'.below kt4.out.lt).cell 0
    have v1 := fun (V' : Grown w4) => (kt4.out.below V'.below kt4.out.lt).cell 1
    have v2 := fun (V' : Grown w4) => (ko4.out.below V'.below ko4.out.lt).cell 0
    have v3 := fun (V' : Grown w4) => (ko4.out.below V'.below ko4.out.lt).cell 1
    have g1 := Lib.hid (fun (V' : Grown w4) => callsIn_wide (n := 6 - 1).2 (grow_call V' (hRight.out V'.v (hx4.out.below V'.below))))
    have g2 := Lib.hid (fun (V' : Grown w4) (z : Int) => callsIn_wide (n := 6 - 1).2 (grow_call V' ((num_any z V'.v).mono fun e w' h => ⟨h.1, h.2 ▸ Below.refl _ _⟩)))
    have g3 := Lib.hid (fun (V' : Grown w4) => callsIn_wide (n := 6 - 1).2 (grow_call V' (hRText.out V'.v (hx4.out.below V'.below) (hq4.out.below V'.below))))
    have g4 := Lib.hid (fun (V' : Grown w4) => callsIn_wide (n := 6 - 1).2 (grow_call V' (hPath.out V'.v (hT'.out.below (below_on hB4.out V'.below)) (hx4.out.below V'.below) (hq4.out.below V'.below))))
    have g5 := Lib.hid (fun (V' : Grown w4) => callsIn_wide (n := 6 - 1).2 (grow_call V' (hRPath.out V'.v (hx4.out.below V'.below))))
    have g6 := Lib.hid (fun (V' : Grown w4) => callsIn_wide (n := 6 - 1).2 (grow_call V' (hSame.out V'.v (hT'.out.below (below_on hB4.out V'.below)) (hx4.out.below V'.below) (hq4.out.below V'.below) (hy4.out.below V'.below) (hr4.out.below V'.below))))
    have g7 := Lib.hid (fun (V' : Grown w4) => callsIn_wide (n := 6 - 1).2 (grow_call V' (hRSame.out V'.v (hx4.out.below V'.below) (hq4.out.below V'.below) (hy4.out.below V'.below) (hr4.out.below V'.below))))
    have g8 := Lib.hid (fun (V' : Grown w4) => callsIn_wide (n := 6 - 1).2 (grow_call V' (hSelf.out V'.v (hT'.out.below (below_on hB4.out V'.below)) (hx4.out.below V'.below) (hq4.out.below V'.below))))
    refine (wpIn_wide (n := 6)).1 ?_
    refine wpIn_region_grow (by kernel_rfl) (by kernel_rfl) (by kernel_rfl) ?_
    cases hrt : rightTg t with
    | false =>
      obtain ⟨rfl, rfl⟩ := htxt.out.2 hrt
      rw [hrt] at g1
      clear hrt
      iterate 49 (gi_big_quiet_step (first
        | (gi_at_call 17; with_reducible exact g1.out _)
        | (gi_at_call 10; with_reducible exact g2.out _ _)
        | (gi_at_call 18; with_reducible exact g3.out _)
        | (gi_at_call 19; with_reducible exact g4.out _)
        | (gi_at_call 20; with_reducible exact g5.out _)
        | (gi_at_call 21; with_reducible exact g6.out _)
        | (gi_at_call 9; with_reducible exact g7.out _)
        | (gi_at_call 21; with_reducible exact g8.out _)))
      refine wpQuietIn_nil ?_
      intro _ hw'
      obtain ⟨V', hw''⟩ := hw'
      subst hw''
      go_wp2
      go_meet
      exact ⟨rfl, V'.below⟩
    | true =>
      obtain ⟨rfl, rfl⟩ := htxt.out.1 hrt
      rw [hrt] at g1
      clear hrt
      generalize textTg t = tx at *
      iterate 49 (gi_big_quiet_step (first
        | (gi_at_call 17; with_reducible exact g1.out _)
        | (gi_at_call 10; with_reducible exact g2.out _ _)
        | (gi_at_call 18; with_reducible exact g3.out _)
        | (gi_at_call 19; with_reducible exact g4.out _)
        | (gi_at_call 20; with_reducible exact g5.out _)
        | (gi_at_call 21; with_reducible exact g6.out _)
        | (gi_at_call 9; with_reducible exact g7.out _)
        | (gi_at_call 21; with_reducible exact g8.out _)))
      refine wpQuietIn_nil ?_
      intro _ hw'
      obtain ⟨V', hw''⟩ := hw'
      subst hw''
      go_wp2
      go_meet
      exact ⟨rfl, V'.below⟩
  case rest =>
    obtain ⟨rfl, hb5⟩ := hcut
    obtain ⟨w5, hw5⟩ : ∃ X, X = wc := ⟨_, rfl⟩
    obtain rfl := hw5
    have hB5 := Lib.hid (below_on hB4.out hb5); have hx5 := Lib.hid (hx4.out.below hb5); have hq5 := Lib.hid (hq4.out.below hb5); have hy5 := Lib.hid (hy4.out.below hb5); have hr5 := Lib.hid (hr4.out.below hb5); have kt5 := Lib.hid (kt4.out.below hb5 kt4.out.lt); have ko5 := Lib.hid (ko4.out.below hb5 ko4.out.lt); have km5 := Lib.hid (km4.out.below hb5 km4.out.lt); have kr5 := Lib.hid (kr4.out.below hb5 kr4.out.lt)
    have t50 : w5.cell? ⟨w.heap.size, 0, none⟩ = some (.slice A1 n1 c1) := kt5.out.cell 0; have t51 : w5.cell? ⟨w.heap.size, 1, none⟩ = some (.slice A2 n2 c2) := kt5.out.cell 1
    clear hb5
    clear hB4 hx4 hq4 hy4 hr4 kt4 ko4 km4 kr4
    go_upto_block 0 with (go_at_call 22; (with_reducible refine Calls.mono (hGet.out _ (hT'.out.below hB5.out) hx5.out hq5.out) ?_); rintro e w6 ⟨rfl, hb6⟩; have hB6 := Lib.hid (below_on hB5.out hb6); have hx6 := Lib.hid (hx5.out.below hb6); have hq6 := Lib.hid (hq5.out.below hb6); have hy6 := Lib.hid (hy5.out.below hb6); have hr6 := Lib.hid (hr5.out.below hb6); have kt6 := Lib.hid (kt5.out.below hb6 kt5.out.lt); have ko6 := Lib.hid (ko5.out.below hb6 ko5.out.lt); have km6 := Lib.hid (km5.out.below hb6 km5.out.lt); have kr6 := Lib.hid (kr5.out.below hb6 kr5.out.lt); have t60 : w6.cell? ⟨w.heap.size, 0, none⟩ = some (.slice A1 n1 c1) := kt6.out.cell 0; have t61 : w6.cell? ⟨w.heap.size, 1, none⟩ = some (.slice A2 n2 c2) := kt6.out.cell 1; clear hb6)
    clear hfa hfb hText hRight hRText hPath hRPath hSame hRSame hSelf hGet htxt
    clear hB5 hx5 hq5 hy5 hr5 kt5 ko5 km5 kr5 t50 t51
    generalize t.2 = qs at *
    have hn2' := Lib.hid hn2
    clear hn2
    go_cut [13] from 93 to 109 (fun x wx => (∃ k : Nat, x = .int .i64 (k : Int) ∧ ((k = n2 ∧ og = none) ∨ (∃ h : k < qs.length, og = some (qs[k]).2))) ∧ wx = w6)
    case first =>
      go_wp2
      go_loopw [13] (fun x W => ∃ k : Nat, k ≤ n2 ∧ x = .int .i64 (k : Int) ∧ og = getQ key (qs.drop k) ∧ W = w6) (fun x _ => n2 - (intOf x).toNat)
      case atStart => exact ⟨0, Nat.zero_le _, rfl, by rw [List.drop_zero]; exact hog'.out.symm, rfl⟩
      case round =>
        obtain ⟨k, hk, rfl, hat, hW⟩ := hrel
        obtain rfl := hW
        by_cases hlt : k < n2
        · have hltI : (k : Int) < (n2 : Int) := by omega
          have hltq : k < qs.length := by rw [hn2'.out]; exact hlt
          obtain ⟨b, off, hA, _, hc⟩ := hq6.out (by omega)
          subst hA
          obtain ⟨j1, j2⟩ := hc k _ (List.getElem?_eq_getElem hltq)
          have hpk := hpairs.out _ (List.getElem_mem hltq)
          clear hc
          by_cases he : qs[k].1 = key
          · have hhit := Lib.hid (show og = some (qs[k]).2 by rw [hat]; exact getQ_hit hltq he)
            have he1 : (qs[k].1 == key) = true := beq_iff_eq.2 he
            clear hat he
            generalize hy1 : qs[k].1 = y1 at *
            go_wp2
            go_meet
            exact ⟨⟨k, rfl, .inr ⟨hltq, hhit.out⟩⟩, rfl⟩
          · have hnx := Lib.hid (show og = getQ key (qs.drop (k + 1)) by rw [hat]; exact getQ_drop hltq he)
            have he1 : (qs[k].1 == key) = false := beq_eq_false_iff_ne.2 he
            clear hat he
            generalize hy1 : qs[k].1 = y1 at *
            go_wp2
            exact ⟨⟨k + 1, by omega, by go_num, hnx.out, trivial⟩, by simp [intOf]; omega⟩
        · obtain rfl : k = n2 := by omega
          have hno := Lib.hid (show og = none by rw [hat, List.drop_of_length_le (by rw [hn2'.out]; exact Nat.le_refl _)]; rfl)
          clear hat
          go_wp2
          go_meet
          exact ⟨⟨_, rfl, .inl ⟨rfl, hno.out⟩⟩, rfl⟩
    case rest =>
      obtain ⟨⟨kk, rfl, hkk⟩, hwc⟩ := hcut
      obtain rfl := hwc.symm
      go_upto_region 10 with (fail)
      go_cut [137] from 110 to 137 (fun c wx => c = .bool false ∧ wx = w6)
      case first =>
        rcases hkk with ⟨rfl, hno⟩ | ⟨hltq, hsm⟩
        · obtain ⟨rfl, rfl⟩ := hgr.out.1 hno
          go_wp2
          go_meet
          exact ⟨rfl, rfl⟩
        · obtain ⟨rfl, rfl⟩ := hgr.out.2 _ hsm
          have hlt : kk < n2 := by rw [← hn2'.out]; exact hltq
          have hltI : (kk : Int) < (n2 : Int) := by omega
          obtain ⟨b, off, hA, _, hc⟩ := hq6.out (by omega)
          subst hA
          obtain ⟨j1, j2⟩ := hc kk _ (List.getElem?_eq_getElem hltq)
          clear hc
          generalize hy2 : qs[kk].2 = y2 at *
          go_wp2
          go_meet
          exact ⟨rfl, rfl⟩
      case rest =>
        obtain ⟨rfl, hwc⟩ := hcut
        obtain rfl := hwc.symm
        clear hkk
        go_upto_region 15 with (go_at_call 23; (with_reducible refine Calls.mono (hPairs.out _ (hT'.out.below hB6.out) hx6.out hq6.out) ?_); rintro e w7 ⟨⟨gf, lb, rfl, hit⟩, hb7⟩; have hIt := Lib.hid hit; have hB7 := Lib.hid (below_on hB6.out hb7); have hx7 := Lib.hid (hx6.out.below hb7); have hq7 := Lib.hid (hq6.out.below hb7); have hy7 := Lib.hid (hy6.out.below hb7); have hr7 := Lib.hid (hr6.out.below hb7); have kt7 := Lib.hid (kt6.out.below hb7 kt6.out.lt); have ko7 := Lib.hid (ko6.out.below hb7 ko6.out.lt); have km7 := Lib.hid (km6.out.below hb7 km6.out.lt); have kr7 := Lib.hid (kr6.out.below hb7 kr6.out.lt); clear hb7 hit)
        obtain ⟨N, hNq⟩ : ∃ N, qs.length = N := ⟨_, rfl⟩
        have hNq' := Lib.hid hNq
        obtain rfl : N = n2 := hNq.symm.trans hn2'.out
        clear hNq hn2' hPairs hog' hgr
        clear hB6 hx6 hq6 hy6 hr6 kt6 ko6 km6 kr6 t60 t61
        have z7 := hB7.out.size
        have zt := kt7.out.lt
        have zm := km7.out.lt
        have zr := kr7.out.lt
        have hnI : N ≤ 20 := hn2b
        go_wp2
        refine (wpIn_wide (n := 6)).1 ?_
        refine wpIn_loop_rounds 3 ?_
        rw [roundsIn_succ]
        have q4 := (Has.new w7 3 #[.int .i64 0]).alloc (.cells #[.int .i64 0] 3)
        have q5 := Has.new (w7.alloc (.cells #[.int .i64 0] 3)) 3 #[.int .i64 0]
        have hb8 : Below w7.heap.size w7 ((w7.alloc (.cells #[.int .i64 0] 3)).alloc (.cells #[.int .i64 0] 3)) := ((Below.refl _ _).alloc (Nat.le_refl _) _).alloc (by simp) _
        simp only [World.size_alloc] at q5
        have hFM := Lib.hid (show QlM w7 w7.heap.size (w7.heap.size + 1) 0 [] 0 ((w7.alloc (.cells #[.int .i64 0] 3)).alloc (.cells #[.int .i64 0] 3)) from ⟨q4, q5, fun _ h => (List.not_mem_nil h).elim, hb8⟩)
        clear q4 q5 hb8
        gi_wp2
        obtain ⟨w8, hw8⟩ : ∃ w8, (w7.alloc (.cells #[.int .i64 0] 3)).alloc (.cells #[.int .i64 0] 3) = w8 := ⟨_, rfl⟩
        have z8 : w8.heap.size = w7.heap.size + 1 + 1 := by rw [← hw8]; simp
        rw [hw8] at hFM ⊢
        clear hw8
        refine wpIn_range_ownB 4 (gf := gf) (lb := lb) rfl hIt.out.enter
          (hIt.out.seq w8 (fun j => j = w7.heap.size + 1) hFM.out.be (fun j hj => by omega))
          (fun h k => h.trans k) (fun W l o o' _ h1 h2 _ => KeptC.putObj W l o o' h1 h2) (Below.refl _ _) (fun _ => rfl)
          (QlI qs w7 m w7.heap.size (w7.heap.size + 1) 0 []) (QlX qs 4 w7 m w7.heap.size (w7.heap.size + 1) 0 []) (QlM w7 w7.heap.size (w7.heap.size + 1) 0 [] (qlCount m qs.length 0))
          (qlI_from qs w7 m _ _ 0 [] _ (fun _ h => (List.not_mem_nil h).elim) (by omega)) (qlX_from qs 4 w7 m _ _ 0 [] _ (fun _ h => (List.not_mem_nil h).elim) (by omega))
          ⟨⟨fitV_nil qs, fun _ => .inl rfl⟩, hFM.out⟩ (fun _ _ h1 h2 => ql_all h1 h2) (fun _ _ _ h1 h2 => ql_left h1 h2)
          (AxQ ?Fx0) (fun z a' _ X Y row hs _ _ => hs) ?assign0 ?body0 (fun _ _ h => h) ?rest0
        case assign0 =>
          intro l1 pre z V K hI hK
          have hK' := Lib.hid hK
          have hI' := Lib.hid hI
          clear hK hI
          dsimp only [encQ]
          gi_wp2
          refine hK'.out _ _ (KeepsFrom.refl _ _) (KeptC.refl _ _) hI'.out ?_
          rfl
        case body0 =>
          rintro l1 pre x a' V ⟨⟨hfit, hcond⟩, hM⟩ rfl hlen
          dsimp only
          rw [hNq'.out] at hlen
          have hM' := Lib.hid hM
          have hbV := hM.be
          have q9 := hM.bk.cell 0
          have q9f := hM.bk.free 0
          have q8 := hM.bT.cell 0
          have q5 := (kt7.out.below hbV kt7.out.lt).cell 1
          have q3 := (km7.out.below hbV km7.out.lt).cell 0
          have q4 := (kr7.out.below hbV kr7.out.lt).cell 0
          have q4f := (kr7.out.below hbV kr7.out.lt).free 0
          have hfit' := Lib.hid hfit
          have hcond' := Lib.hid hcond
          have hl1 : Hid ((pre ++ [x]).length = pre.length + 1) := Lib.hid (by simp)
          obtain ⟨pl, hple⟩ : ∃ pl, pre.length = pl := ⟨_, rfl⟩
          have hple' := Lib.hid hple
          have e1 : Hid (((pre ++ [x]).length : Int) = (pl : Int) + 1) := Lib.hid (by rw [hl1.out, hple]; rfl)
          rw [hple] at q9 hlen
          have hli2 : (pl : Int) < (N : Int) := by omega
          have hli3 : decide (N ≤ pl) = false := decide_eq_false (by omega)
          have hltq : pl < qs.length := by rw [hNq'.out]; exact hlen
          obtain ⟨b, off, hA, _, hc⟩ := (hq7.out.below hbV) (by omega)
          subst hA
          obtain ⟨j1, j2⟩ := hc pl _ (List.getElem?_eq_getElem hltq)
          have hpk := hpairs.out _ (List.getElem_mem hltq)
          have hvq := Lib.hid (valQ_at qs x)
          have hvl := valQ_len qs x 120 (fun q hq => hpairs.out q hq)
          obtain ⟨vx, hvx⟩ : ∃ vx, qs[x]?.getD ([], []) = vx := ⟨_, rfl⟩
          rw [hvx] at hvq hvl ⊢
          obtain ⟨vy, hvy⟩ : ∃ vy, qs[pl] = vy := ⟨_, rfl⟩
          rw [hvy] at j1 j2 hpk
          have heq := fun W => pair_equal vy vx ⟨by omega, by omega⟩ ⟨by omega, by omega⟩ W
          by_cases hxp : vy = vx
          · rw [decide_eq_true hxp] at heq
            have hnx := Lib.hid (show FitV qs (pre ++ [x]) from fitV_next hfit'.out (by rw [hple'.out, hNq'.out]; exact hlen) (by rw [hvq.out, ← hxp, ← hvy]; congr 1; exact hple'.out.symm))
            have hM9 := Lib.hid (hM'.out.count (by omega) (by omega) ((pl : Int) + 1))
            clear hM hbV hfit hcond hple hc hxp
            by_cases hm : m ≤ (pl : Int) + 1
            · gi_wp2
              refine ⟨(KeepsOthers.setCell _ _ _).from _, .inr ⟨rfl, rfl, hnx.out, by rw [e1.out]; exact hm, ?_, by rw [hl1.out]; omega, by rw [e1.out]; exact hM9.out⟩⟩
              rw [e1.out, hl1.out]
              have := hcond'.out trivial
              rw [hple'.out] at this
              have := hple'.out
              omega
            · have hm2 : decide (m ≤ (pl : Int) + 1) = false := decide_eq_false hm
              gi_wp2
              refine ⟨(KeepsOthers.setCell _ _ _).from _, (KeptC.refl (fun j => j = w7.heap.size + 1) _).setCell rfl 0 _, ⟨hnx.out, fun _ => .inr (by rw [e1.out]; omega)⟩, by rw [e1.out]; exact hM9.out⟩
          · rw [decide_eq_false hxp] at heq
            have hx' := Lib.hid (show ¬ FitV qs (pre ++ [x]) from fun hff => hxp (by have h := fitV_last hff (by rw [hple'.out, hNq'.out]; exact hlen); rw [hvq.out] at h; rw [h, ← hvy]; congr 1; exact hple'.out.symm))
            clear hxp hc hfit hcond hM hbV hple
            gi_wp2
            exact ⟨(KeepsOthers.setCell _ _ _).from _, .inl ⟨rfl, hx'.out⟩⟩
        case rest0 =>
          rintro D W hD hM hDn
          rw [hNq'.out] at hM
          have hDn' := Lib.hid hDn
          have hDW := hDn.lt
          have hbW := hM.be
          have hbs5 := hbW.size
          have e8 := hM.bT.cell 0
          have e9 := hM.bk.cell 0
          have e5 := (kt7.out.below hbW kt7.out.lt).cell 1
          have e3 := (km7.out.below hbW km7.out.lt).cell 0
          rw [show qlCount m N 0 = min (N : Int) (max 1 m) from rfl] at e9
          have hbW' := Lib.hid hbW
          clear hbW hM hDn
          gi_wp2
          rw [roundsIn_succ]
          have q4 := (Has.new W 3 #[.int .i64 1]).alloc (.cells #[.int .i64 0] 3)
          have q5 := Has.new (W.alloc (.cells #[.int .i64 1] 3)) 3 #[.int .i64 0]
          simp only [World.size_alloc] at q5
          have n2 : QlM w7 W.heap.size (W.heap.size + 1) 1 [D] 0 ((W.alloc (.cells #[.int .i64 1] 3)).alloc (.cells #[.int .i64 0] 3)) :=
            ⟨q4, q5, fun D' h => by rw [List.mem_singleton.1 h]; exact (hDn'.out.alloc _).alloc _, (hbW'.out.alloc hbW'.out.size _).alloc (by simp only [World.size_alloc]; omega) _⟩
          have n2' := Lib.hid n2
          clear q4 q5 n2 e8 e9 e5 e3
          gi_wp2
          obtain ⟨w9, hw9⟩ : ∃ w9, (W.alloc (.cells #[.int .i64 1] 3)).alloc (.cells #[.int .i64 0] 3) = w9 := ⟨_, rfl⟩
          have z9 : w9.heap.size = W.heap.size + 1 + 1 := by rw [← hw9]; simp
          rw [hw9] at n2' ⊢
          clear hw9
          refine wpIn_range_ownB 4 (gf := gf) (lb := lb) rfl hIt.out.enter
            (hIt.out.seq w9 (fun j => j = W.heap.size + 1) n2'.out.be (fun j hj => by omega))
            (fun h k => h.trans k) (fun W l o o' _ h1 h2 _ => KeptC.putObj W l o o' h1 h2) (Below.refl _ _) (fun _ => rfl)
            (QlI qs w7 m W.heap.size (W.heap.size + 1) 1 [D]) (QlX qs 4 w7 m W.heap.size (W.heap.size + 1) 1 [D]) (QlM w7 W.heap.size (W.heap.size + 1) 1 [D] (qlCount m qs.length 1))
            (qlI_from qs w7 m _ _ 1 [D] _ (fun D' h => by rw [List.mem_singleton.1 h]; omega) (by omega)) (qlX_from qs 4 w7 m _ _ 1 [D] _ (fun D' h => by rw [List.mem_singleton.1 h]; omega) (by omega))
            ⟨⟨fitV_nil qs, fun h => by cases h⟩, n2'.out⟩ (fun _ _ h1 h2 => ql_all h1 h2) (fun _ _ _ h1 h2 => ql_left h1 h2)
            (AxQ ?Fx1) (fun z a' _ X Y row hs _ _ => hs) ?assign1 ?body1 (fun _ _ h => h) ?rest1
          case assign1 =>
            intro l1 pre z V K hI hK
            have hK' := Lib.hid hK
            have hI' := Lib.hid hI
            clear hK hI
            dsimp only [encQ]
            gi_wp2
            refine hK'.out _ _ (KeepsFrom.refl _ _) (KeptC.refl _ _) hI'.out ?_
            rfl
          case body1 =>
            rintro l1 pre x a' V ⟨⟨hfit, hcond⟩, hM⟩ rfl hlen
            dsimp only
            rw [hNq'.out] at hlen
            have hM' := Lib.hid hM
            have hbV := hM.be
            have q9 := hM.bk.cell 0
            have q9f := hM.bk.free 0
            have q8 := hM.bT.cell 0
            have q5 := (kt7.out.below hbV kt7.out.lt).cell 1
            have q3 := (km7.out.below hbV km7.out.lt).cell 0
            have q4 := (kr7.out.below hbV kr7.out.lt).cell 0
            have q4f := (kr7.out.below hbV kr7.out.lt).free 0
            have hfit' := Lib.hid hfit
            have hcond' := Lib.hid hcond
            have hl1 : Hid ((pre ++ [x]).length = pre.length + 1) := Lib.hid (by simp)
            obtain ⟨pl, hple⟩ : ∃ pl, pre.length = pl := ⟨_, rfl⟩
            have hple' := Lib.hid hple
            have e1 : Hid (((pre ++ [x]).length : Int) = (pl : Int) + 1) := Lib.hid (by rw [hl1.out, hple]; rfl)
            rw [hple] at q9 hlen
            have hli2 : (pl : Int) < (N : Int) := by omega
            have hli3 : decide (N ≤ pl) = false := decide_eq_false (by omega)
            have hltq : pl < qs.length := by rw [hNq'.out]; exact hlen
            obtain ⟨b, off, hA, _, hc⟩ := (hq7.out.below hbV) (by omega)
            subst hA
            obtain ⟨j1, j2⟩ := hc pl _ (List.getElem?_eq_getElem hltq)
            have hpk := hpairs.out _ (List.getElem_mem hltq)
            have hvq := Lib.hid (valQ_at qs x)
            have hvl := valQ_len qs x 120 (fun q hq => hpairs.out q hq)
            obtain ⟨vx, hvx⟩ : ∃ vx, qs[x]?.getD ([], []) = vx := ⟨_, rfl⟩
            rw [hvx] at hvq hvl ⊢
            obtain ⟨vy, hvy⟩ : ∃ vy, qs[pl] = vy := ⟨_, rfl⟩
            rw [hvy] at j1 j2 hpk
            have heq := fun W => pair_equal vy vx ⟨by omega, by omega⟩ ⟨by omega, by omega⟩ W
            by_cases hxp : vy = vx
            · rw [decide_eq_true hxp] at heq
              have hnx := Lib.hid (show FitV qs (pre ++ [x]) from fitV_next hfit'.out (by rw [hple'.out, hNq'.out]; exact hlen) (by rw [hvq.out, ← hxp, ← hvy]; congr 1; exact hple'.out.symm))
              have hM9 := Lib.hid (hM'.out.count (by omega) (by omega) ((pl : Int) + 1))
              clear hM hbV hfit hcond hple hc hxp
              gi_wp2
              refine ⟨(KeepsOthers.setCell _ _ _).from _, (KeptC.refl (fun j => j = W.heap.size + 1) _).setCell rfl 0 _, ⟨hnx.out, fun h => by cases h⟩, by rw [e1.out]; exact hM9.out⟩
            · rw [decide_eq_false hxp] at heq
              have hx' := Lib.hid (show ¬ FitV qs (pre ++ [x]) from fun hff => hxp (by have h := fitV_last hff (by rw [hple'.out, hNq'.out]; exact hlen); rw [hvq.out] at h; rw [h, ← hvy]; congr 1; exact hple'.out.symm))
              clear hxp hc hfit hcond hM hbV hple
              gi_wp2
              exact ⟨(KeepsOthers.setCell _ _ _).from _, .inl ⟨rfl, hx'.out⟩⟩
          case rest1 =>
            rintro D2 W2 hD2 hM2 hDn2
            rw [hNq'.out] at hM2
            have hDn2' := Lib.hid hDn2
            have hDW2 := hDn2.lt
            have hne : D < D2 := by omega
            have hds := Lib.hid (hM2.ds D List.mem_cons_self)
            have hbW2 := hM2.be
            have hbs2 := hbW2.size
            have e8 := hM2.bT.cell 0
            have e9 := hM2.bk.cell 0
            have e5 := (kt7.out.below hbW2 kt7.out.lt).cell 1
            have e3 := (km7.out.below hbW2 km7.out.lt).cell 0
            have hd4 := Lib.hid (kr7.out.below hbW2 kr7.out.lt)
            have hb2w := Lib.hid (hB7.out.trans (hbW2.mono hB7.out.size))
            rw [show qlCount m N 1 = (N : Int) from rfl] at e9
            have hgl1 := hd4.out.lt
            have hz4 := kr7.out.lt
            have hz05 := hB7.out.size
            clear hbW2 hM2 hDn2
            gi_wp2
            rw [roundsIn_succ]
            have e7 := (Has.new W2 3 #[.int .i64 2]).cell 0
            have g1x := hd4.out.alloc (.cells #[.int .i64 2] 3)
            have e8 := g1x.cell 0
            have f8 := g1x.free 0
            have hb2x := Lib.hid (hb2w.out.alloc (by omega) (.cells #[.int .i64 2] 3))
            gi_wp2_with fail
            go_wp2_with fail
            with_reducible refine Calls.mono (works_any hP _ (hT'.out.below hb2x.out)) ?_
            rintro e w19 ⟨rfl, hb19⟩
            have hb19w := below_on hb2x.out hb19
            have g9 := g1x.below hb19 g1x.lt
            have e9 := g9.cell 0
            have f9 := g9.free 0
            have k2 := Lib.hid (((hDn2'.out.alloc (.cells #[.int .i64 2] 3)).below hb19 (by simp; omega)).set (i := 0) g9 (.bool true))
            have k1 := Lib.hid (((hds.out.alloc (.cells #[.int .i64 2] 3)).below hb19 (by simp; omega)).set (i := 0) g9 (.bool true))
            have g10 := g9.put 0 (.bool true)
            have hb10 := Lib.hid (hb19w.setCell (p := ⟨w.heap.size + 1 + 1 + 1, 0, none⟩) (by simp; omega) (.bool true))
            go_wp2
            have hne2 : D ≠ D2 := by omega
            have k1' := (k1.out.put (.deferred none) hne2)
            refine ⟨by simp, .inl ⟨_, _, rfl, run_takeDeferred k2.out, ⟨by simp, .inl ⟨_, _, rfl, run_takeDeferred k1', ?_⟩⟩⟩⟩
            have g11 := ((g10.put_obj (.deferred none) (l := D2) (by omega)).put_obj (.deferred none) (l := D) (by omega)).cell 0
            refine ⟨.bool true, ?_, rfl, ?_⟩
            · simp [results, Tryz.results4, go_sem, g11]
            · exact (hb10.out.trans (belowK_b (w := w) (Nat.le_refl _) _ D2 _ _ (by omega) k2.out rfl rfl)).trans (belowK_b (w := w) (Nat.le_refl _) _ D _ _ (by omega) k1' rfl rfl)
end Go.Proofs.YtcogdfgmmpfkkaaGreatDoor
