import Derived.Test.YtabgpnieekcdhaaDoorAnJ
import Derived.Laws.DeepStrings4
namespace Go.Proofs.YtabgpnieekcdhaaDoor
open Go.RowKit
attribute [local go_sem] Oper.semAt_some

/-! ## The document's Plain, Refusal, Health, Stream -/
theorem hdsO_two (W : World) (n0 : Nat) (q r : PairL) (h : n0 ≤ W.heap.size) : HdsO (W.alloc (.cells #[.string ⟨q.1.toArray⟩, .string ⟨q.2.toArray⟩, .string ⟨r.1.toArray⟩, .string ⟨r.2.toArray⟩] 69)) n0 (.slice (some ⟨W.heap.size, 0, none⟩) 2 2) [q, r] :=
  ⟨rfl, .inr ⟨W.heap.size, 2, _, rfl, h, World.alloc_heap_new W _, Nat.le_refl _, by decide, rfl, rfl⟩⟩
theorem hdsO_three (W : World) (n0 : Nat) (q r s : PairL) (h : n0 ≤ W.heap.size) : HdsO (W.alloc (.cells #[.string ⟨q.1.toArray⟩, .string ⟨q.2.toArray⟩, .string ⟨r.1.toArray⟩, .string ⟨r.2.toArray⟩, .string ⟨s.1.toArray⟩, .string ⟨s.2.toArray⟩] 69)) n0 (.slice (some ⟨W.heap.size, 0, none⟩) 3 3) [q, r, s] :=
  ⟨rfl, .inr ⟨W.heap.size, 3, _, rfl, h, World.alloc_heap_new W _, Nat.le_refl _, by decide, rfl, rfl⟩⟩
theorem HdsO.opened {W : World} {n0 : Nat} {v : Value} {l : List PairL} (h : HdsO W n0 v l) : ∃ A m c, v = .slice A m c ∧ m = l.length ∧ HdsO W n0 (.slice A m c) l := by
  obtain ⟨A, c, e, -⟩ := h.prs
  exact ⟨A, l.length, c, e, rfl, e ▸ h⟩
/-- A head in a box, its fields in a row of the call's own. -/
def HbO (W : World) (n0 z : Nat) (f : ByteArray) (v : Value) (l : List PairL) : Prop := Has W z 53 #[.string f, v] ∧ HdsO W n0 v l ∧ n0 ≤ z
theorem HbO.below {W W' : World} {n0 z : Nat} {f : ByteArray} {v : Value} {l : List PairL} (h : HbO W n0 z f v l) (hb : Below W.heap.size W W') : HbO W' n0 z f v l := ⟨h.1.below hb h.1.lt, h.2.1.below hb, h.2.2⟩
/-- Behind an append and the store of what it gives. -/
theorem HbO.step {W X : World} {n0 z : Nat} {f : ByteArray} {v v' : Value} {l l' : List PairL} (h : HbO W n0 z f v l) (hv : HdsO X n0 v' l') (hg : W.grownBy X v.ownBlock) : Has X z 53 #[.string f, v] ∧ HbO (X.setCell ⟨z, 1, none⟩ v') n0 z f v' l' := by
  have hz : Has X z 53 #[.string f, v] := (hg.block z h.1.lt (fun e => by
    obtain ⟨_, cs', hc⟩ := h.2.1.own z e.symm
    have := Option.some.inj ((show W.heap[z]? = _ from hc).symm.trans h.1)
    injection this with _ h2 _
    exact absurd h2 (by decide))).trans h.1
  refine ⟨hz, by simpa using hz.put 1 v', hv.kept fun g e => ?_, h.2.2⟩
  obtain ⟨_, cs', h'⟩ := hv.own g e
  refine Below.heap_setCell X ⟨z, 1, none⟩ v' g (fun e' => ?_)
  subst e'
  have := Option.some.inj (h'.symm.trans hz)
  injection this with _ ht _
  exact absurd ht (by decide)
theorem first_cat (d r : List UInt8) : ((⟨#[72, 84, 84, 80, 47, 49, 46, 49, 32]⟩ : ByteArray) ++ ⟨d.toArray⟩ ++ ⟨#[32]⟩ ++ ⟨r.toArray⟩) = ⟨(An.httpL ++ [32] ++ d ++ [32] ++ r).toArray⟩ := by
  rw [show (⟨#[72, 84, 84, 80, 47, 49, 46, 49, 32]⟩ : ByteArray) = ⟨(An.httpL ++ [32]).toArray⟩ from rfl, show (⟨#[32]⟩ : ByteArray) = ⟨[32].toArray⟩ from rfl, app_str, app_str, app_str]
def StrOk (b : List UInt8) (w : World) (e : Ending) (w' : World) : Prop := e = .returned (.tuple #[.string ⟨b.toArray⟩, .int .i64 0]) ∧ Below w.heap.size w w'
theorem refText_dec (x : Nat) (hx : x < 18446744073709551616) (w : World) : Calls Tryd.prog 24 #[.int .u64 (x : Int)] w fun e w' => e = .returned (.string ⟨(An.dec x).toArray⟩) ∧ w' = w :=
  (refText_any x hx w).mono fun e w' ⟨⟨K, hK, h⟩, hw⟩ => ⟨by rw [h, An.dec_of hK], hw.symm⟩
set_option maxRecDepth 100000 in
set_option maxHeartbeats 8000000 in
theorem refPlain_none (s : Nat) (r t : List UInt8) (w : World) (hs : s < 1000) (hr : r.length ≤ 100) (ht : t.length ≤ 1000) (hrs : An.reason (s : Int) = some r) (h5 : s ≠ 405) (h3 : s ≠ 503) : Calls Tryd.prog 12 #[.int .i64 (s : Int), .string ⟨t.toArray⟩] w (StrOk (An.plainB s r t) w) := by
  unfold StrOk
  have hre := Lib.hid (show Calls Tryd.prog 11 #[.int .i64 (s : Int)] w fun e w' => e = .returned (.tuple #[.string ⟨r.toArray⟩, .int .i64 0]) ∧ Below w.heap.size w w' by have := refReason_any (s : Int) w; rw [hrs] at this; exact this)
  have hw1 : IntKind.u64.wrap (s : Int) = (s : Int) := by rw [IntKind.wrap_u64]; omega
  have hw2 : IntKind.u64.wrap (t.length : Int) = (t.length : Int) := by rw [IntKind.wrap_u64]; omega
  have hw3 : IntKind.u64.wrap ((t.length : Int) + 1) = (t.length : Int) + 1 := by rw [IntKind.wrap_u64]; omega
  have htx := Lib.hid (fun W => refText_dec s (by omega) W)
  have hty := Lib.hid (fun W => show Calls Tryd.prog 24 #[.int .u64 ((t.length : Int) + 1)] W fun e w' => e = .returned (.string ⟨(An.dec (t.length + 1)).toArray⟩) ∧ w' = W from refText_dec (t.length + 1) (by omega) W)
  have hdl := An.dec_len (x := s) (by omega)
  have hel := An.dec_len (x := t.length + 1) (by omega)
  have hfl : Hid (An.fieldsT s (t.length + 1) = [(An.ctypeL, An.plainT), (An.clenL, An.dec (t.length + 1))] ++ [(An.connL, An.closeL)]) := Lib.hid (by
    unfold An.fieldsT An.own
    rw [if_neg h5, if_neg h3, List.append_nil])
  have hfe : An.firstT s r = An.httpL ++ [32] ++ An.dec s ++ [32] ++ r := rfl
  have hle : (An.firstT s r).length ≤ 1000 := by rw [hfe]; simp [An.httpL]; omega
  have hby := Lib.hid (fun A c W (hx : Prs W A (An.fieldsT s (t.length + 1))) => refBytes_any (An.firstT s r) A c (An.fieldsT s (t.length + 1)) W (by omega) (by have := An.fields_len s (t.length + 1); omega) (fun q h => by have := An.fields_small (s := s) (n := t.length + 1) (by omega) q h; omega) hx)
  have hll : (An.headT (An.firstT s r) (An.fieldsT s (t.length + 1))).length ≤ 1000000 := by
    have h1 := An.flat_len (m := 41) (l := An.fieldsT s (t.length + 1)) (fun q hq => by have := An.fields_small (s := s) (n := t.length + 1) (by omega) q hq; rw [An.fieldT_len]; omega)
    have h2 := An.fields_len s (t.length + 1)
    have h3 : (An.fieldsT s (t.length + 1)).length * 41 ≤ 4 * 41 := Nat.mul_le_mul_right _ h2
    unfold An.headT An.crlf
    simp only [List.length_append, List.length_cons, List.length_nil]
    omega
  have hpb : Hid (An.plainB s r t = An.headT (An.firstT s r) (An.fieldsT s (t.length + 1)) ++ (t ++ [10])) := Lib.hid rfl
  have hfln := Lib.hid (An.fields_len s (t.length + 1))
  unfold StrR at hby
  have hfc := first_cat (An.dec s) r
  rw [← hfe] at hfc
  generalize An.plainB s r t = P at *
  generalize An.headT (An.firstT s r) (An.fieldsT s (t.length + 1)) = HT at *
  generalize An.firstT s r = F at *
  generalize An.fieldsT s (t.length + 1) = FL at *
  generalize An.dec s = ds at *
  generalize An.dec (t.length + 1) = dt at *
  have hcat1 : ¬ 9223372036854775807 < HT.length + t.length := by omega
  have hcat2 : ¬ 9223372036854775807 < HT.length + t.length + 1 := by omega
  have hti : ¬ (1000 : Int) < (t.length : Int) := by omega
  have i5 : ¬ (s : Int) = 405 := by omega
  have i3 : ¬ (s : Int) = 503 := by omega
  clear hrs hfe hle hs
  go_enter Tryd.func12, Tryd.ntmps12
  go_upto_region 5 with (first
    | (go_at_call 11; (with_reducible refine Calls.mono hre.out ?_); rintro e w2 ⟨rfl, hb2⟩; have hb2' := Lib.hid hb2; clear hb2)
    | (go_at_call 24; (with_reducible refine Calls.mono (htx.out _) ?_); rintro e w3 ⟨rfl, hw3'⟩; obtain rfl := hw3'.symm)
    | (go_at_call 24; (with_reducible refine Calls.mono (hty.out _) ?_); rintro e w4 ⟨rfl, hw4'⟩; obtain rfl := hw4'.symm))
  have hz1 : (w2.alloc (.cells #[.string ⟨#[99, 111, 110, 116, 101, 110, 116, 45, 116, 121, 112, 101]⟩, .string ⟨#[116, 101, 120, 116, 47, 112, 108, 97, 105, 110]⟩, .string ⟨#[99, 111, 110, 116, 101, 110, 116, 45, 108, 101, 110, 103, 116, 104]⟩, .string ⟨dt.toArray⟩] 69)).heap.size = w2.heap.size + 1 := by simp
  have hb0 : HbO ((w2.alloc (.cells #[.string ⟨#[99, 111, 110, 116, 101, 110, 116, 45, 116, 121, 112, 101]⟩, .string ⟨#[116, 101, 120, 116, 47, 112, 108, 97, 105, 110]⟩, .string ⟨#[99, 111, 110, 116, 101, 110, 116, 45, 108, 101, 110, 103, 116, 104]⟩, .string ⟨dt.toArray⟩] 69)).alloc (.cells #[.string ⟨F.toArray⟩, .slice (some ⟨w2.heap.size, 0, none⟩) 2 2] 53)) w.heap.size (w2.heap.size + 1) ⟨F.toArray⟩ (.slice (some ⟨w2.heap.size, 0, none⟩) 2 2) [(An.ctypeL, An.plainT), (An.clenL, dt)] := by
    refine ⟨?_, ?_, by have := hb2'.out.size; omega⟩
    · rw [← hz1]; exact Has.new _ _ _
    · exact (hdsO_two w2 w.heap.size (An.ctypeL, An.plainT) (An.clenL, dt) hb2'.out.size).below ((Below.refl _ _).alloc (Nat.le_refl _) _)
  have hB0 : Below w.heap.size w ((w2.alloc (.cells #[.string ⟨#[99, 111, 110, 116, 101, 110, 116, 45, 116, 121, 112, 101]⟩, .string ⟨#[116, 101, 120, 116, 47, 112, 108, 97, 105, 110]⟩, .string ⟨#[99, 111, 110, 116, 101, 110, 116, 45, 108, 101, 110, 103, 116, 104]⟩, .string ⟨dt.toArray⟩] 69)).alloc (.cells #[.string ⟨F.toArray⟩, .slice (some ⟨w2.heap.size, 0, none⟩) 2 2] 53)) := (hb2'.out.alloc hb2'.out.size _).alloc (by rw [hz1]; have := hb2'.out.size; omega) _
  try simp only [hfc] at hb0 hB0 ⊢
  obtain ⟨wh, hwh⟩ : ∃ wh, (w2.alloc (.cells #[.string ⟨#[99, 111, 110, 116, 101, 110, 116, 45, 116, 121, 112, 101]⟩, .string ⟨#[116, 101, 120, 116, 47, 112, 108, 97, 105, 110]⟩, .string ⟨#[99, 111, 110, 116, 101, 110, 116, 45, 108, 101, 110, 103, 116, 104]⟩, .string ⟨dt.toArray⟩] 69)).alloc (.cells #[.string ⟨F.toArray⟩, .slice (some ⟨w2.heap.size, 0, none⟩) 2 2] 53) = wh := ⟨_, rfl⟩
  try rw [hwh] at hb0 hB0 ⊢
  obtain ⟨z, hzz⟩ : ∃ z, w2.heap.size + 1 = z := ⟨_, rfl⟩
  rw [hzz] at hb0
  try rw [hzz]
  obtain ⟨A0, hA0⟩ : ∃ A0, (some ⟨w2.heap.size, 0, none⟩ : Option Addr) = A0 := ⟨_, rfl⟩
  rw [hA0] at hb0
  try rw [hA0]
  have hsz0 : Hid (w.heap.size ≤ wh.heap.size) := Lib.hid hB0.size
  clear hwh hzz hA0 hz1
  have k0 := hb0.1.cell 1
  have fz0 := hb0.1.free 1
  have hq0' := Lib.hid hb0
  have hB0' := Lib.hid hB0
  clear hb0 hB0
  go_upto_region 10 with (first
    | (at_builtin; refine wpList_append_hdr rfl _ _ rfl rfl (hq0'.out.2.1.below ((Below.refl _ _).alloc (Nat.le_refl _) (.cells #[.string ⟨#[99, 111, 110, 110, 101, 99, 116, 105, 111, 110]⟩, .string ⟨#[99, 108, 111, 115, 101]⟩] 69))) _ (An.connL, An.closeL) rfl (show Has _ _ _ #[.string ⟨#[99, 111, 110, 110, 101, 99, 116, 105, 111, 110]⟩, .string ⟨#[99, 108, 111, 115, 101]⟩] from Has.new _ _ _) (by simp) (by have := hsz0.out; simp; omega) ?_
       intro va1 wa1 hva1 hga1
       obtain ⟨A1, m1, ca1, ev1, em1, hvo1⟩ := hva1.opened
       subst ev1
       have emh1 := Lib.hid em1
       clear em1
       have hst1 := HbO.step (hq0'.out.below ((Below.refl _ _).alloc (Nat.le_refl _) (.cells #[.string ⟨#[99, 111, 110, 110, 101, 99, 116, 105, 111, 110]⟩, .string ⟨#[99, 108, 111, 115, 101]⟩] 69))) hva1 hga1
       have kk1 := hst1.1.cell 1
       have ff1 := hst1.1.free 1
       have hB1' := Lib.hid (((hB0'.out.alloc hsz0.out (.cells #[.string ⟨#[99, 111, 110, 110, 101, 99, 116, 105, 111, 110]⟩, .string ⟨#[99, 108, 111, 115, 101]⟩] 69)).grown hga1 (by have := hsz0.out; simp; omega) (fun g e => (hq0'.out.2.1.own g e).1)).setCell (p := ⟨z, 1, none⟩) hq0'.out.2.2 (.slice A1 m1 ca1))
       obtain ⟨wb1, hwb1⟩ : ∃ wb, wa1.setCell ⟨z, 1, none⟩ (.slice A1 m1 ca1) = wb := ⟨_, rfl⟩
       rw [hwb1] at hst1 hB1'
       have k1 := hst1.2.1.cell 1
       have k1z := hst1.2.1.cell 0
       have fz1 := hst1.2.1.free 1
       have hsz1 : Hid (w.heap.size ≤ wb1.heap.size) := Lib.hid hB1'.out.size
       have hq1' := Lib.hid hst1.2
       clear hva1 hga1 hvo1 hst1))
  have hpl : Prs wb1 A1 FL := by
    obtain ⟨A9, c9, e9, h9⟩ := hq1'.out.2.1.prs
    injection e9 with e1 _ _
    subst e1
    rw [hfl.out]
    exact h9
  have hml : m1 = FL.length := by rw [emh1.out, hfl.out]
  have q0 : wb1.cell? ⟨z, 0, none⟩ = some (.string ⟨F.toArray⟩) := k1z
  have q1 : wb1.cell? ⟨z, 1, none⟩ = some (.slice A1 FL.length ca1) := by rw [← hml]; exact k1
  have hby1 := Lib.hid (hby.out A1 ca1 wb1 hpl)
  clear hml hpl k1 k1z kk1 ff1 fz1
  go_wp2_with (go_at_call 32; (with_reducible refine Calls.mono hby1.out ?_); rintro e w9 ⟨rfl, hb9⟩; have hb9' := Lib.hid hb9; clear hb9)
  go_ret2
  have e9 : (⟨HT.toArray⟩ : ByteArray) ++ ⟨t.toArray⟩ ++ ⟨#[10]⟩ = ⟨P.toArray⟩ := by
    rw [show (⟨#[10]⟩ : ByteArray) = ⟨[10].toArray⟩ from rfl, app_str, app_str, hpb.out, List.append_assoc]
  rw [← e9]
  exact ⟨rfl, below_on hB1'.out hb9'.out⟩
set_option maxRecDepth 100000 in
set_option maxHeartbeats 8000000 in
theorem refPlain_405 (s : Nat) (r t : List UInt8) (w : World) (hs : s < 1000) (hr : r.length ≤ 100) (ht : t.length ≤ 1000) (hrs : An.reason (s : Int) = some r) (h5 : s = 405) : Calls Tryd.prog 12 #[.int .i64 (s : Int), .string ⟨t.toArray⟩] w (StrOk (An.plainB s r t) w) := by
  unfold StrOk
  have hre := Lib.hid (show Calls Tryd.prog 11 #[.int .i64 (s : Int)] w fun e w' => e = .returned (.tuple #[.string ⟨r.toArray⟩, .int .i64 0]) ∧ Below w.heap.size w w' by have := refReason_any (s : Int) w; rw [hrs] at this; exact this)
  have hw1 : IntKind.u64.wrap (s : Int) = (s : Int) := by rw [IntKind.wrap_u64]; omega
  have hw2 : IntKind.u64.wrap (t.length : Int) = (t.length : Int) := by rw [IntKind.wrap_u64]; omega
  have hw3 : IntKind.u64.wrap ((t.length : Int) + 1) = (t.length : Int) + 1 := by rw [IntKind.wrap_u64]; omega
  have htx := Lib.hid (fun W => refText_dec s (by omega) W)
  have hty := Lib.hid (fun W => show Calls Tryd.prog 24 #[.int .u64 ((t.length : Int) + 1)] W fun e w' => e = .returned (.string ⟨(An.dec (t.length + 1)).toArray⟩) ∧ w' = W from refText_dec (t.length + 1) (by omega) W)
  have hdl := An.dec_len (x := s) (by omega)
  have hel := An.dec_len (x := t.length + 1) (by omega)
  have hfl : Hid (An.fieldsT s (t.length + 1) = [(An.ctypeL, An.plainT), (An.clenL, An.dec (t.length + 1))] ++ [(An.allowL, An.getL)] ++ [(An.connL, An.closeL)]) := Lib.hid (by
    unfold An.fieldsT An.own
    rw [if_pos h5])
  have hfe : An.firstT s r = An.httpL ++ [32] ++ An.dec s ++ [32] ++ r := rfl
  have hle : (An.firstT s r).length ≤ 1000 := by rw [hfe]; simp [An.httpL]; omega
  have hby := Lib.hid (fun A c W (hx : Prs W A (An.fieldsT s (t.length + 1))) => refBytes_any (An.firstT s r) A c (An.fieldsT s (t.length + 1)) W (by omega) (by have := An.fields_len s (t.length + 1); omega) (fun q h => by have := An.fields_small (s := s) (n := t.length + 1) (by omega) q h; omega) hx)
  have hll : (An.headT (An.firstT s r) (An.fieldsT s (t.length + 1))).length ≤ 1000000 := by
    have h1 := An.flat_len (m := 41) (l := An.fieldsT s (t.length + 1)) (fun q hq => by have := An.fields_small (s := s) (n := t.length + 1) (by omega) q hq; rw [An.fieldT_len]; omega)
    have h2 := An.fields_len s (t.length + 1)
    have h3 : (An.fieldsT s (t.length + 1)).length * 41 ≤ 4 * 41 := Nat.mul_le_mul_right _ h2
    unfold An.headT An.crlf
    simp only [List.length_append, List.length_cons, List.length_nil]
    omega
  have hpb : Hid (An.plainB s r t = An.headT (An.firstT s r) (An.fieldsT s (t.length + 1)) ++ (t ++ [10])) := Lib.hid rfl
  have hfln := Lib.hid (An.fields_len s (t.length + 1))
  unfold StrR at hby
  have hfc := first_cat (An.dec s) r
  rw [← hfe] at hfc
  generalize An.plainB s r t = P at *
  generalize An.headT (An.firstT s r) (An.fieldsT s (t.length + 1)) = HT at *
  generalize An.firstT s r = F at *
  generalize An.fieldsT s (t.length + 1) = FL at *
  generalize An.dec s = ds at *
  generalize An.dec (t.length + 1) = dt at *
  have hcat1 : ¬ 9223372036854775807 < HT.length + t.length := by omega
  have hcat2 : ¬ 9223372036854775807 < HT.length + t.length + 1 := by omega
  have hti : ¬ (1000 : Int) < (t.length : Int) := by omega
  subst h5
  clear hrs hfe hle hs
  go_enter Tryd.func12, Tryd.ntmps12
  go_upto_region 5 with (first
    | (go_at_call 11; (with_reducible refine Calls.mono hre.out ?_); rintro e w2 ⟨rfl, hb2⟩; have hb2' := Lib.hid hb2; clear hb2)
    | (go_at_call 24; (with_reducible refine Calls.mono (htx.out _) ?_); rintro e w3 ⟨rfl, hw3'⟩; obtain rfl := hw3'.symm)
    | (go_at_call 24; (with_reducible refine Calls.mono (hty.out _) ?_); rintro e w4 ⟨rfl, hw4'⟩; obtain rfl := hw4'.symm))
  have hz1 : (w2.alloc (.cells #[.string ⟨#[99, 111, 110, 116, 101, 110, 116, 45, 116, 121, 112, 101]⟩, .string ⟨#[116, 101, 120, 116, 47, 112, 108, 97, 105, 110]⟩, .string ⟨#[99, 111, 110, 116, 101, 110, 116, 45, 108, 101, 110, 103, 116, 104]⟩, .string ⟨dt.toArray⟩] 69)).heap.size = w2.heap.size + 1 := by simp
  have hb0 : HbO ((w2.alloc (.cells #[.string ⟨#[99, 111, 110, 116, 101, 110, 116, 45, 116, 121, 112, 101]⟩, .string ⟨#[116, 101, 120, 116, 47, 112, 108, 97, 105, 110]⟩, .string ⟨#[99, 111, 110, 116, 101, 110, 116, 45, 108, 101, 110, 103, 116, 104]⟩, .string ⟨dt.toArray⟩] 69)).alloc (.cells #[.string ⟨F.toArray⟩, .slice (some ⟨w2.heap.size, 0, none⟩) 2 2] 53)) w.heap.size (w2.heap.size + 1) ⟨F.toArray⟩ (.slice (some ⟨w2.heap.size, 0, none⟩) 2 2) [(An.ctypeL, An.plainT), (An.clenL, dt)] := by
    refine ⟨?_, ?_, by have := hb2'.out.size; omega⟩
    · rw [← hz1]; exact Has.new _ _ _
    · exact (hdsO_two w2 w.heap.size (An.ctypeL, An.plainT) (An.clenL, dt) hb2'.out.size).below ((Below.refl _ _).alloc (Nat.le_refl _) _)
  have hB0 : Below w.heap.size w ((w2.alloc (.cells #[.string ⟨#[99, 111, 110, 116, 101, 110, 116, 45, 116, 121, 112, 101]⟩, .string ⟨#[116, 101, 120, 116, 47, 112, 108, 97, 105, 110]⟩, .string ⟨#[99, 111, 110, 116, 101, 110, 116, 45, 108, 101, 110, 103, 116, 104]⟩, .string ⟨dt.toArray⟩] 69)).alloc (.cells #[.string ⟨F.toArray⟩, .slice (some ⟨w2.heap.size, 0, none⟩) 2 2] 53)) := (hb2'.out.alloc hb2'.out.size _).alloc (by rw [hz1]; have := hb2'.out.size; omega) _
  try simp only [hfc] at hb0 hB0 ⊢
  obtain ⟨wh, hwh⟩ : ∃ wh, (w2.alloc (.cells #[.string ⟨#[99, 111, 110, 116, 101, 110, 116, 45, 116, 121, 112, 101]⟩, .string ⟨#[116, 101, 120, 116, 47, 112, 108, 97, 105, 110]⟩, .string ⟨#[99, 111, 110, 116, 101, 110, 116, 45, 108, 101, 110, 103, 116, 104]⟩, .string ⟨dt.toArray⟩] 69)).alloc (.cells #[.string ⟨F.toArray⟩, .slice (some ⟨w2.heap.size, 0, none⟩) 2 2] 53) = wh := ⟨_, rfl⟩
  try rw [hwh] at hb0 hB0 ⊢
  obtain ⟨z, hzz⟩ : ∃ z, w2.heap.size + 1 = z := ⟨_, rfl⟩
  rw [hzz] at hb0
  try rw [hzz]
  obtain ⟨A0, hA0⟩ : ∃ A0, (some ⟨w2.heap.size, 0, none⟩ : Option Addr) = A0 := ⟨_, rfl⟩
  rw [hA0] at hb0
  try rw [hA0]
  have hsz0 : Hid (w.heap.size ≤ wh.heap.size) := Lib.hid hB0.size
  clear hwh hzz hA0 hz1
  have k0 := hb0.1.cell 1
  have fz0 := hb0.1.free 1
  have hq0' := Lib.hid hb0
  have hB0' := Lib.hid hB0
  clear hb0 hB0
  go_upto_region 10 with (first
    | (at_builtin; refine wpList_append_hdr rfl _ _ rfl rfl (hq0'.out.2.1.below ((Below.refl _ _).alloc (Nat.le_refl _) (.cells #[.string ⟨#[97, 108, 108, 111, 119]⟩, .string ⟨#[71, 69, 84]⟩] 69))) _ (An.allowL, An.getL) rfl (show Has _ _ _ #[.string ⟨#[97, 108, 108, 111, 119]⟩, .string ⟨#[71, 69, 84]⟩] from Has.new _ _ _) (by simp) (by have := hsz0.out; simp; omega) ?_
       intro va1 wa1 hva1 hga1
       obtain ⟨A1, m1, ca1, ev1, em1, hvo1⟩ := hva1.opened
       subst ev1
       have emh1 := Lib.hid em1
       clear em1
       have hst1 := HbO.step (hq0'.out.below ((Below.refl _ _).alloc (Nat.le_refl _) (.cells #[.string ⟨#[97, 108, 108, 111, 119]⟩, .string ⟨#[71, 69, 84]⟩] 69))) hva1 hga1
       have kk1 := hst1.1.cell 1
       have ff1 := hst1.1.free 1
       have hB1' := Lib.hid (((hB0'.out.alloc hsz0.out (.cells #[.string ⟨#[97, 108, 108, 111, 119]⟩, .string ⟨#[71, 69, 84]⟩] 69)).grown hga1 (by have := hsz0.out; simp; omega) (fun g e => (hq0'.out.2.1.own g e).1)).setCell (p := ⟨z, 1, none⟩) hq0'.out.2.2 (.slice A1 m1 ca1))
       obtain ⟨wb1, hwb1⟩ : ∃ wb, wa1.setCell ⟨z, 1, none⟩ (.slice A1 m1 ca1) = wb := ⟨_, rfl⟩
       rw [hwb1] at hst1 hB1'
       have k1 := hst1.2.1.cell 1
       have k1z := hst1.2.1.cell 0
       have fz1 := hst1.2.1.free 1
       have hsz1 : Hid (w.heap.size ≤ wb1.heap.size) := Lib.hid hB1'.out.size
       have hq1' := Lib.hid hst1.2
       clear hva1 hga1 hvo1 hst1)
    | (at_builtin; refine wpList_append_hdr rfl _ _ rfl rfl (hq1'.out.2.1.below ((Below.refl _ _).alloc (Nat.le_refl _) (.cells #[.string ⟨#[99, 111, 110, 110, 101, 99, 116, 105, 111, 110]⟩, .string ⟨#[99, 108, 111, 115, 101]⟩] 69))) _ (An.connL, An.closeL) rfl (show Has _ _ _ #[.string ⟨#[99, 111, 110, 110, 101, 99, 116, 105, 111, 110]⟩, .string ⟨#[99, 108, 111, 115, 101]⟩] from Has.new _ _ _) (by simp) (by have := hsz1.out; simp; omega) ?_
       intro va2 wa2 hva2 hga2
       obtain ⟨A2, m2, ca2, ev2, em2, hvo2⟩ := hva2.opened
       subst ev2
       have emh2 := Lib.hid em2
       clear em2
       have hst2 := HbO.step (hq1'.out.below ((Below.refl _ _).alloc (Nat.le_refl _) (.cells #[.string ⟨#[99, 111, 110, 110, 101, 99, 116, 105, 111, 110]⟩, .string ⟨#[99, 108, 111, 115, 101]⟩] 69))) hva2 hga2
       have kk2 := hst2.1.cell 1
       have ff2 := hst2.1.free 1
       have hB2' := Lib.hid (((hB1'.out.alloc hsz1.out (.cells #[.string ⟨#[99, 111, 110, 110, 101, 99, 116, 105, 111, 110]⟩, .string ⟨#[99, 108, 111, 115, 101]⟩] 69)).grown hga2 (by have := hsz1.out; simp; omega) (fun g e => (hq1'.out.2.1.own g e).1)).setCell (p := ⟨z, 1, none⟩) hq0'.out.2.2 (.slice A2 m2 ca2))
       obtain ⟨wb2, hwb2⟩ : ∃ wb, wa2.setCell ⟨z, 1, none⟩ (.slice A2 m2 ca2) = wb := ⟨_, rfl⟩
       rw [hwb2] at hst2 hB2'
       have k2 := hst2.2.1.cell 1
       have k2z := hst2.2.1.cell 0
       have fz2 := hst2.2.1.free 1
       have hsz2 : Hid (w.heap.size ≤ wb2.heap.size) := Lib.hid hB2'.out.size
       have hq2' := Lib.hid hst2.2
       clear hva2 hga2 hvo2 hst2))
  have hpl : Prs wb2 A2 FL := by
    obtain ⟨A9, c9, e9, h9⟩ := hq2'.out.2.1.prs
    injection e9 with e1 _ _
    subst e1
    rw [hfl.out]
    exact h9
  have hml : m2 = FL.length := by rw [emh2.out, hfl.out]
  have q0 : wb2.cell? ⟨z, 0, none⟩ = some (.string ⟨F.toArray⟩) := k2z
  have q1 : wb2.cell? ⟨z, 1, none⟩ = some (.slice A2 FL.length ca2) := by rw [← hml]; exact k2
  have hby1 := Lib.hid (hby.out A2 ca2 wb2 hpl)
  clear hml hpl k2 k2z kk2 ff2 fz2
  go_wp2_with (go_at_call 32; (with_reducible refine Calls.mono hby1.out ?_); rintro e w9 ⟨rfl, hb9⟩; have hb9' := Lib.hid hb9; clear hb9)
  go_ret2
  have e9 : (⟨HT.toArray⟩ : ByteArray) ++ ⟨t.toArray⟩ ++ ⟨#[10]⟩ = ⟨P.toArray⟩ := by
    rw [show (⟨#[10]⟩ : ByteArray) = ⟨[10].toArray⟩ from rfl, app_str, app_str, hpb.out, List.append_assoc]
  rw [← e9]
  exact ⟨rfl, below_on hB2'.out hb9'.out⟩
set_option maxRecDepth 100000 in
set_option maxHeartbeats 8000000 in
theorem refPlain_503 (s : Nat) (r t : List UInt8) (w : World) (hs : s < 1000) (hr : r.length ≤ 100) (ht : t.length ≤ 1000) (hrs : An.reason (s : Int) = some r) (h3 : s = 503) : Calls Tryd.prog 12 #[.int .i64 (s : Int), .string ⟨t.toArray⟩] w (StrOk (An.plainB s r t) w) := by
  unfold StrOk
  have hre := Lib.hid (show Calls Tryd.prog 11 #[.int .i64 (s : Int)] w fun e w' => e = .returned (.tuple #[.string ⟨r.toArray⟩, .int .i64 0]) ∧ Below w.heap.size w w' by have := refReason_any (s : Int) w; rw [hrs] at this; exact this)
  have hw1 : IntKind.u64.wrap (s : Int) = (s : Int) := by rw [IntKind.wrap_u64]; omega
  have hw2 : IntKind.u64.wrap (t.length : Int) = (t.length : Int) := by rw [IntKind.wrap_u64]; omega
  have hw3 : IntKind.u64.wrap ((t.length : Int) + 1) = (t.length : Int) + 1 := by rw [IntKind.wrap_u64]; omega
  have htx := Lib.hid (fun W => refText_dec s (by omega) W)
  have hty := Lib.hid (fun W => show Calls Tryd.prog 24 #[.int .u64 ((t.length : Int) + 1)] W fun e w' => e = .returned (.string ⟨(An.dec (t.length + 1)).toArray⟩) ∧ w' = W from refText_dec (t.length + 1) (by omega) W)
  have hdl := An.dec_len (x := s) (by omega)
  have hel := An.dec_len (x := t.length + 1) (by omega)
  have hfl : Hid (An.fieldsT s (t.length + 1) = [(An.ctypeL, An.plainT), (An.clenL, An.dec (t.length + 1))] ++ [(An.retryL, An.oneL)] ++ [(An.connL, An.closeL)]) := Lib.hid (by
    unfold An.fieldsT An.own
    rw [if_neg (by omega), if_pos h3])
  have hfe : An.firstT s r = An.httpL ++ [32] ++ An.dec s ++ [32] ++ r := rfl
  have hle : (An.firstT s r).length ≤ 1000 := by rw [hfe]; simp [An.httpL]; omega
  have hby := Lib.hid (fun A c W (hx : Prs W A (An.fieldsT s (t.length + 1))) => refBytes_any (An.firstT s r) A c (An.fieldsT s (t.length + 1)) W (by omega) (by have := An.fields_len s (t.length + 1); omega) (fun q h => by have := An.fields_small (s := s) (n := t.length + 1) (by omega) q h; omega) hx)
  have hll : (An.headT (An.firstT s r) (An.fieldsT s (t.length + 1))).length ≤ 1000000 := by
    have h1 := An.flat_len (m := 41) (l := An.fieldsT s (t.length + 1)) (fun q hq => by have := An.fields_small (s := s) (n := t.length + 1) (by omega) q hq; rw [An.fieldT_len]; omega)
    have h2 := An.fields_len s (t.length + 1)
    have h3 : (An.fieldsT s (t.length + 1)).length * 41 ≤ 4 * 41 := Nat.mul_le_mul_right _ h2
    unfold An.headT An.crlf
    simp only [List.length_append, List.length_cons, List.length_nil]
    omega
  have hpb : Hid (An.plainB s r t = An.headT (An.firstT s r) (An.fieldsT s (t.length + 1)) ++ (t ++ [10])) := Lib.hid rfl
  have hfln := Lib.hid (An.fields_len s (t.length + 1))
  unfold StrR at hby
  have hfc := first_cat (An.dec s) r
  rw [← hfe] at hfc
  generalize An.plainB s r t = P at *
  generalize An.headT (An.firstT s r) (An.fieldsT s (t.length + 1)) = HT at *
  generalize An.firstT s r = F at *
  generalize An.fieldsT s (t.length + 1) = FL at *
  generalize An.dec s = ds at *
  generalize An.dec (t.length + 1) = dt at *
  have hcat1 : ¬ 9223372036854775807 < HT.length + t.length := by omega
  have hcat2 : ¬ 9223372036854775807 < HT.length + t.length + 1 := by omega
  have hti : ¬ (1000 : Int) < (t.length : Int) := by omega
  subst h3
  clear hrs hfe hle hs
  go_enter Tryd.func12, Tryd.ntmps12
  go_upto_region 5 with (first
    | (go_at_call 11; (with_reducible refine Calls.mono hre.out ?_); rintro e w2 ⟨rfl, hb2⟩; have hb2' := Lib.hid hb2; clear hb2)
    | (go_at_call 24; (with_reducible refine Calls.mono (htx.out _) ?_); rintro e w3 ⟨rfl, hw3'⟩; obtain rfl := hw3'.symm)
    | (go_at_call 24; (with_reducible refine Calls.mono (hty.out _) ?_); rintro e w4 ⟨rfl, hw4'⟩; obtain rfl := hw4'.symm))
  have hz1 : (w2.alloc (.cells #[.string ⟨#[99, 111, 110, 116, 101, 110, 116, 45, 116, 121, 112, 101]⟩, .string ⟨#[116, 101, 120, 116, 47, 112, 108, 97, 105, 110]⟩, .string ⟨#[99, 111, 110, 116, 101, 110, 116, 45, 108, 101, 110, 103, 116, 104]⟩, .string ⟨dt.toArray⟩] 69)).heap.size = w2.heap.size + 1 := by simp
  have hb0 : HbO ((w2.alloc (.cells #[.string ⟨#[99, 111, 110, 116, 101, 110, 116, 45, 116, 121, 112, 101]⟩, .string ⟨#[116, 101, 120, 116, 47, 112, 108, 97, 105, 110]⟩, .string ⟨#[99, 111, 110, 116, 101, 110, 116, 45, 108, 101, 110, 103, 116, 104]⟩, .string ⟨dt.toArray⟩] 69)).alloc (.cells #[.string ⟨F.toArray⟩, .slice (some ⟨w2.heap.size, 0, none⟩) 2 2] 53)) w.heap.size (w2.heap.size + 1) ⟨F.toArray⟩ (.slice (some ⟨w2.heap.size, 0, none⟩) 2 2) [(An.ctypeL, An.plainT), (An.clenL, dt)] := by
    refine ⟨?_, ?_, by have := hb2'.out.size; omega⟩
    · rw [← hz1]; exact Has.new _ _ _
    · exact (hdsO_two w2 w.heap.size (An.ctypeL, An.plainT) (An.clenL, dt) hb2'.out.size).below ((Below.refl _ _).alloc (Nat.le_refl _) _)
  have hB0 : Below w.heap.size w ((w2.alloc (.cells #[.string ⟨#[99, 111, 110, 116, 101, 110, 116, 45, 116, 121, 112, 101]⟩, .string ⟨#[116, 101, 120, 116, 47, 112, 108, 97, 105, 110]⟩, .string ⟨#[99, 111, 110, 116, 101, 110, 116, 45, 108, 101, 110, 103, 116, 104]⟩, .string ⟨dt.toArray⟩] 69)).alloc (.cells #[.string ⟨F.toArray⟩, .slice (some ⟨w2.heap.size, 0, none⟩) 2 2] 53)) := (hb2'.out.alloc hb2'.out.size _).alloc (by rw [hz1]; have := hb2'.out.size; omega) _
  try simp only [hfc] at hb0 hB0 ⊢
  obtain ⟨wh, hwh⟩ : ∃ wh, (w2.alloc (.cells #[.string ⟨#[99, 111, 110, 116, 101, 110, 116, 45, 116, 121, 112, 101]⟩, .string ⟨#[116, 101, 120, 116, 47, 112, 108, 97, 105, 110]⟩, .string ⟨#[99, 111, 110, 116, 101, 110, 116, 45, 108, 101, 110, 103, 116, 104]⟩, .string ⟨dt.toArray⟩] 69)).alloc (.cells #[.string ⟨F.toArray⟩, .slice (some ⟨w2.heap.size, 0, none⟩) 2 2] 53) = wh := ⟨_, rfl⟩
  try rw [hwh] at hb0 hB0 ⊢
  obtain ⟨z, hzz⟩ : ∃ z, w2.heap.size + 1 = z := ⟨_, rfl⟩
  rw [hzz] at hb0
  try rw [hzz]
  obtain ⟨A0, hA0⟩ : ∃ A0, (some ⟨w2.heap.size, 0, none⟩ : Option Addr) = A0 := ⟨_, rfl⟩
  rw [hA0] at hb0
  try rw [hA0]
  have hsz0 : Hid (w.heap.size ≤ wh.heap.size) := Lib.hid hB0.size
  clear hwh hzz hA0 hz1
  have k0 := hb0.1.cell 1
  have fz0 := hb0.1.free 1
  have hq0' := Lib.hid hb0
  have hB0' := Lib.hid hB0
  clear hb0 hB0
  go_upto_region 10 with (first
    | (at_builtin; refine wpList_append_hdr rfl _ _ rfl rfl (hq0'.out.2.1.below ((Below.refl _ _).alloc (Nat.le_refl _) (.cells #[.string ⟨#[114, 101, 116, 114, 121, 45, 97, 102, 116, 101, 114]⟩, .string ⟨#[49]⟩] 69))) _ (An.retryL, An.oneL) rfl (show Has _ _ _ #[.string ⟨#[114, 101, 116, 114, 121, 45, 97, 102, 116, 101, 114]⟩, .string ⟨#[49]⟩] from Has.new _ _ _) (by simp) (by have := hsz0.out; simp; omega) ?_
       intro va1 wa1 hva1 hga1
       obtain ⟨A1, m1, ca1, ev1, em1, hvo1⟩ := hva1.opened
       subst ev1
       have emh1 := Lib.hid em1
       clear em1
       have hst1 := HbO.step (hq0'.out.below ((Below.refl _ _).alloc (Nat.le_refl _) (.cells #[.string ⟨#[114, 101, 116, 114, 121, 45, 97, 102, 116, 101, 114]⟩, .string ⟨#[49]⟩] 69))) hva1 hga1
       have kk1 := hst1.1.cell 1
       have ff1 := hst1.1.free 1
       have hB1' := Lib.hid (((hB0'.out.alloc hsz0.out (.cells #[.string ⟨#[114, 101, 116, 114, 121, 45, 97, 102, 116, 101, 114]⟩, .string ⟨#[49]⟩] 69)).grown hga1 (by have := hsz0.out; simp; omega) (fun g e => (hq0'.out.2.1.own g e).1)).setCell (p := ⟨z, 1, none⟩) hq0'.out.2.2 (.slice A1 m1 ca1))
       obtain ⟨wb1, hwb1⟩ : ∃ wb, wa1.setCell ⟨z, 1, none⟩ (.slice A1 m1 ca1) = wb := ⟨_, rfl⟩
       rw [hwb1] at hst1 hB1'
       have k1 := hst1.2.1.cell 1
       have k1z := hst1.2.1.cell 0
       have fz1 := hst1.2.1.free 1
       have hsz1 : Hid (w.heap.size ≤ wb1.heap.size) := Lib.hid hB1'.out.size
       have hq1' := Lib.hid hst1.2
       clear hva1 hga1 hvo1 hst1)
    | (at_builtin; refine wpList_append_hdr rfl _ _ rfl rfl (hq1'.out.2.1.below ((Below.refl _ _).alloc (Nat.le_refl _) (.cells #[.string ⟨#[99, 111, 110, 110, 101, 99, 116, 105, 111, 110]⟩, .string ⟨#[99, 108, 111, 115, 101]⟩] 69))) _ (An.connL, An.closeL) rfl (show Has _ _ _ #[.string ⟨#[99, 111, 110, 110, 101, 99, 116, 105, 111, 110]⟩, .string ⟨#[99, 108, 111, 115, 101]⟩] from Has.new _ _ _) (by simp) (by have := hsz1.out; simp; omega) ?_
       intro va2 wa2 hva2 hga2
       obtain ⟨A2, m2, ca2, ev2, em2, hvo2⟩ := hva2.opened
       subst ev2
       have emh2 := Lib.hid em2
       clear em2
       have hst2 := HbO.step (hq1'.out.below ((Below.refl _ _).alloc (Nat.le_refl _) (.cells #[.string ⟨#[99, 111, 110, 110, 101, 99, 116, 105, 111, 110]⟩, .string ⟨#[99, 108, 111, 115, 101]⟩] 69))) hva2 hga2
       have kk2 := hst2.1.cell 1
       have ff2 := hst2.1.free 1
       have hB2' := Lib.hid (((hB1'.out.alloc hsz1.out (.cells #[.string ⟨#[99, 111, 110, 110, 101, 99, 116, 105, 111, 110]⟩, .string ⟨#[99, 108, 111, 115, 101]⟩] 69)).grown hga2 (by have := hsz1.out; simp; omega) (fun g e => (hq1'.out.2.1.own g e).1)).setCell (p := ⟨z, 1, none⟩) hq0'.out.2.2 (.slice A2 m2 ca2))
       obtain ⟨wb2, hwb2⟩ : ∃ wb, wa2.setCell ⟨z, 1, none⟩ (.slice A2 m2 ca2) = wb := ⟨_, rfl⟩
       rw [hwb2] at hst2 hB2'
       have k2 := hst2.2.1.cell 1
       have k2z := hst2.2.1.cell 0
       have fz2 := hst2.2.1.free 1
       have hsz2 : Hid (w.heap.size ≤ wb2.heap.size) := Lib.hid hB2'.out.size
       have hq2' := Lib.hid hst2.2
       clear hva2 hga2 hvo2 hst2))
  have hpl : Prs wb2 A2 FL := by
    obtain ⟨A9, c9, e9, h9⟩ := hq2'.out.2.1.prs
    injection e9 with e1 _ _
    subst e1
    rw [hfl.out]
    exact h9
  have hml : m2 = FL.length := by rw [emh2.out, hfl.out]
  have q0 : wb2.cell? ⟨z, 0, none⟩ = some (.string ⟨F.toArray⟩) := k2z
  have q1 : wb2.cell? ⟨z, 1, none⟩ = some (.slice A2 FL.length ca2) := by rw [← hml]; exact k2
  have hby1 := Lib.hid (hby.out A2 ca2 wb2 hpl)
  clear hml hpl k2 k2z kk2 ff2 fz2
  go_wp2_with (go_at_call 32; (with_reducible refine Calls.mono hby1.out ?_); rintro e w9 ⟨rfl, hb9⟩; have hb9' := Lib.hid hb9; clear hb9)
  go_ret2
  have e9 : (⟨HT.toArray⟩ : ByteArray) ++ ⟨t.toArray⟩ ++ ⟨#[10]⟩ = ⟨P.toArray⟩ := by
    rw [show (⟨#[10]⟩ : ByteArray) = ⟨[10].toArray⟩ from rfl, app_str, app_str, hpb.out, List.append_assoc]
  rw [← e9]
  exact ⟨rfl, below_on hB2'.out hb9'.out⟩
theorem refPlain_any (s : Int) (t : List UInt8) (w : World) (ht : t.length ≤ 140737488355328) : Calls Tryd.prog 12 #[.int .i64 s, .string ⟨t.toArray⟩] w fun e w' => e = .returned (reasonV (An.plainO s t)) ∧ Below w.heap.size w w' := by
  unfold An.plainO
  cases hrs : An.reason s with
  | none =>
    have hre := Lib.hid (refReason_any s w)
    rw [hrs] at hre
    unfold reasonV at hre ⊢
    simp only at hre ⊢
    clear hrs
    go_enter Tryd.func12, Tryd.ntmps12
    go_wp2_with (go_at_call 11; (with_reducible refine Calls.mono hre.out ?_); rintro e w2 ⟨rfl, hb2⟩; have hb2' := Lib.hid hb2; clear hb2)
    go_ret2
    exact ⟨rfl, hb2'.out⟩
  | some r =>
    simp only
    by_cases hl : t.length ≤ 1000
    · rw [if_pos hl]
      obtain ⟨j, hj, hs, hr2⟩ := An.reason_some hrs
      have hsv := An.stat_val hj
      subst hs hr2
      rw [Int.toNat_natCast]
      show Calls _ _ _ _ (StrOk _ w)
      by_cases h5 : (An.stat j).1 = 405
      · exact refPlain_405 (An.stat j).1 (An.stat j).2 t w (by omega) (by omega) hl hrs h5
      · by_cases h3 : (An.stat j).1 = 503
        · exact refPlain_503 (An.stat j).1 (An.stat j).2 t w (by omega) (by omega) hl hrs h3
        · exact refPlain_none (An.stat j).1 (An.stat j).2 t w (by omega) (by omega) hl hrs h5 h3
    · rw [if_neg hl]
      have hre := Lib.hid (refReason_any s w)
      rw [hrs] at hre
      unfold reasonV at hre ⊢
      simp only at hre ⊢
      have hli : (1000 : Int) < (t.length : Int) := by omega
      clear hrs hl
      go_enter Tryd.func12, Tryd.ntmps12
      go_wp2_with (go_at_call 11; (with_reducible refine Calls.mono hre.out ?_); rintro e w2 ⟨rfl, hb2⟩; have hb2' := Lib.hid hb2; clear hb2)
      go_ret2
      exact ⟨rfl, hb2'.out⟩
end Go.Proofs.YtabgpnieekcdhaaDoor
