import Derived.Test.YtkpbdamkdlbhmaaDoorKf
import Derived.Test.YtkpbdamkdlbhmaaDoorO
import Derived.Deep.RegionHeld3
namespace Go.Proofs.YtkpbdamkdlbhmaaDoor
open Go.RowKit Go.Shelf

/-! ## The law of bytes made sound -/
theorem bs_empty (w : World) : Bs (w.alloc (.cells #[] 5)) w.heap.size (.slice (some ⟨w.heap.size, 0, none⟩) 0 0) [] := own_empty w 5
theorem Bs.whole {W : World} {n0 : Nat} {v : Value} {l : List UInt8} (h : Bs W n0 v l) (h0 : 0 < l.length) : ∃ g c, v = .slice (some ⟨g, 0, none⟩) l.length c ∧ n0 ≤ g ∧ g < W.heap.size ∧ l.length ≤ c ∧ c ≤ maxLen ∧ Rd W (· = g) (some ⟨g, 0, none⟩) l := by
  have hh := h
  rcases h.2 with ⟨rfl, h1⟩ | ⟨g, cap, cur, rfl, hb, hg, hnc, hcm, _⟩
  · omega
  · exact ⟨g, cap, rfl, hb, (Array.getElem?_eq_some_iff.1 hg).1, hnc, hcm, fun _ => ⟨_, rfl, rfl, fun j u hu => World.ownsRow.cells (g := g) hh rfl j u hu⟩⟩
theorem rd_one (W : World) (b : UInt8) : Rd (W.alloc (.cells #[byt b] 5)) (· = W.heap.size) (some ⟨W.heap.size, 0, none⟩) [b] := Has.rd (t := 5) (Has.new W _ _)
theorem of_works (A : Option Addr) (len cap : Nat) (w : World) (hT : Tab w) (hl : 300 < len) (hm : len ≤ maxLen) :
    Calls Tryd.prog 3 #[.slice A len cap] w fun e w' => e = .returned (.bool true) ∧ Below w.heap.size w w' := by
  unfold maxLen at hm
  have hw := Lib.hid (works_any w hT)
  go_enter Tryd.func3, Tryd.ntmps3
  go_wp2_with (go_at_call 11; refine hw.out.mono ?_; rintro e w9 ⟨rfl, hb9⟩)
  go_ret
  exact ⟨rfl, hb9⟩
theorem sound_val (s : ByteArray) (b : Bool) (w : World) (hm : s.size ≤ 9223372036854775807) (hT : Tab w) (h : soundB s.data.toList = b) : Calls Tryd.prog 14 #[.string s] w fun e w' => e = .returned (.bool b) ∧ Below w.heap.size w w' := by
  subst h
  exact sound_any s w hm hT
theorem refSound_val (s : ByteArray) (b : Bool) (w : World) (hm : s.size ≤ 1099511627) (h : soundB s.data.toList = b) : Calls Tryd.prog 15 #[.string s] w fun e w' => e = .returned (.bool b) ∧ Below w.heap.size w w' := by
  subst h
  exact refSound_any s w hm
theorem bytes_size (l : List UInt8) : (⟨l.toArray⟩ : ByteArray).size = l.length := by show l.toArray.size = _; simp
theorem soundOf_as {f : FuncId} {xs : Array Value} {l ob : List UInt8} {w : World} (h : ofB l = ob) (hc : Calls Tryd.prog f xs w (SoundOf l w)) : Calls Tryd.prog f xs w fun e w' => e = .returned (.string ⟨ob.toArray⟩) ∧ Below w.heap.size w w' := by
  subst h
  exact hc
theorem refText_as {f : FuncId} {xs : Array Value} {l ob : List UInt8} {w : World} (h : ofB l = ob) (hc : Calls Tryd.prog f xs w (RefText l w)) : Calls Tryd.prog f xs w fun e w' => e = .returned (.string ⟨ob.toArray⟩) ∧ Below w.heap.size w w' := by
  subst h
  exact hc
/-- The text's bytes, named: so that a region takes this operation in its turn, as one that makes memory. -/
def cvOp : Op := Op.convert 9 22 (.tmp 37)
attribute [local go_sem] cvOp
set_option maxRecDepth 100000 in
set_option maxHeartbeats 4000000 in
theorem lawOf (A : Option Addr) (m cap : Nat) (bs : List UInt8) (w : World) (hT : Tab w) (hm : m = bs.length) (hA : Rd w (· < w.heap.size) A bs) (hl : m ≤ 300) (hc : m ≤ cap) (hcm : cap ≤ maxLen) :
    Calls Tryd.prog 3 #[.slice A m cap] w fun e w' => e = .returned (.bool true) ∧ Below w.heap.size w w' := by
  unfold maxLen at hcm
  have hT' := Lib.hid hT
  have hm' := Lib.hid hm
  have hA' := Lib.hid hA
  have hE := Lib.hid (bs_empty w)
  have hE1 := Lib.hid ((Below.refl w.heap.size w).alloc (Nat.le_refl _) (.cells #[] 5))
  have hAE := Lib.hid (hA.kept (Kept.below hE1.out (fun _ h => h)))
  have hl3 : Hid (([] ++ bs ++ [77] : List UInt8).length = m + 1) := Lib.hid (by simp [hm])
  obtain ⟨ob, hob⟩ : ∃ ob, ofB bs = ob := ⟨_, rfl⟩
  have hob' := Lib.hid hob
  have hobl : Hid (ob.length ≤ 900) := Lib.hid (by have := ofB_len bs; rw [hob] at this; omega)
  clear hT hm hA
  go_enter Tryd.func3, Tryd.ntmps3
  go_wp2_with (first
    | (at_builtin; refine wpList_append_rd rfl _ _ rfl rfl hE.out _ A bs m cap hm'.out rfl hAE.out (by have := hm'.out; simp; omega) (by simp) ?_; intro v2 w2 hv2 hg2; have hv2' := Lib.hid hv2; have hg2' := Lib.hid hg2; have hB2 := Lib.hid (hE1.out.grown hg2 (by simp) (fun g e => ((bs_empty w).own g e).1)); clear hv2 hg2)
    | (at_builtin; refine wpList_append_rd rfl _ _ rfl rfl (hv2'.out.below ((Below.refl _ _).alloc (Nat.le_refl _) _)) _ _ [77] 1 1 rfl rfl (rd_one w2 77) (by have := hm'.out; simp; omega) (by have := hB2.out.size; simp; omega) ?_; intro v3 w3 hv3 hg3; have hB3 := Lib.hid ((hB2.out.alloc hB2.out.size _).grown hg3 (by have := hB2.out.size; simp; omega) (fun g e => (hv2'.out.own g e).1)); obtain ⟨g3, c3, rfl, hg31, hg32, hc3, hc3m, hr3⟩ := hv3.whole (by simp); rw [hl3.out] at hc3 ⊢; have hr3' := Lib.hid hr3; unfold maxLen at hc3m; clear hv3 hg3 hr3; have hTw3 := Lib.hid (hT'.out.below hB3.out); have hof3 := Lib.hid (soundOf_as hob'.out (of_any bs (some ⟨g3, 0, none⟩) m c3 w3 hm'.out (by have := (hr3'.out.mono (S' := (· < w3.heap.size)) (fun b (hb : b = g3) => by subst hb; exact hg32)).take m; rwa [List.nil_append, List.take_left' hm'.out.symm] at this) hTw3.out (by have := hm'.out; omega))))
    | (go_at_call 12; refine hof3.out.mono ?_; rintro e w4 ⟨rfl, hb4⟩)
    | fail)
  have hB4 := Lib.hid (hB3.out.trans (hb4.mono hB3.out.size))
  have hA4 : ∀ W, Below w4.heap.size w4 W → Rd W (· < W.heap.size) A bs := fun W hb => by
    have hbw : Below w.heap.size w W := hB4.out.trans (hb.mono hB4.out.size)
    exact (hA'.out.kept (Kept.below hbw (fun _ h => h))).mono (fun b (h : b < w.heap.size) => Nat.lt_of_lt_of_le h hbw.size)
  have hr4 : ∀ W, Below w4.heap.size w4 W → Rd W (· = g3) (some ⟨g3, 0, none⟩) ([] ++ bs ++ [77]) := fun W hb => by
    have hbw : Below w3.heap.size w3 W := hb4.trans (hb.mono hb4.size)
    exact hr3'.out.kept (Kept.below hbw (fun b (h : b = g3) => by subst h; exact hg32))
  have hT4 : ∀ W, Below w4.heap.size w4 W → Tab W := fun W hb => (hTw3.out.below hb4).below hb
  have hcb := (fun W (hb : Below w4.heap.size w4 W) => show (convert 22 9 (.slice A m cap)).run Tryd.prog W = .ok (.string ⟨bs.toArray⟩) W by
    have := (hA4 W hb).text (P := Tryd.prog) 22 9 5 cap Tryd.underlying22 Tryd.underlying5 Tryd.underlying9
    rwa [← hm'.out] at this)
  have hcc := (fun W (hb : Below w4.heap.size w4 W) => show (convert 22 9 (.slice (some ⟨g3, 0, none⟩) m c3)).run Tryd.prog W = .ok (.string ⟨bs.toArray⟩) W by
    have := ((hr4 W hb).take m).text (P := Tryd.prog) 22 9 5 c3 Tryd.underlying22 Tryd.underlying5 Tryd.underlying9
    rwa [List.nil_append, List.take_left' hm'.out.symm, ← hm'.out] at this)
  have hc77 := (fun W (hb : Below w4.heap.size w4 W) => show W.cell? ⟨g3, m, none⟩ = some (.int .u8 77) by
    obtain ⟨ad, had, _, hcell⟩ := hr4 W hb (by simp)
    cases had
    have := hcell m (byt 77) (by rw [byts_append, List.nil_append, List.getElem?_append_right (by rw [byts_length]; have := hm'.out; omega), byts_length, ← hm'.out, Nat.sub_self]; rfl)
    rwa [add_zero_, Nat.zero_add] at this)
  have hall := Lib.hid (fun W (hb : Below w4.heap.size w4 W) => And.intro (hcb W hb) (And.intro (hcc W hb) (hc77 W hb)))
  clear hcb hcc hc77
  have hsb := fun (W : World) (hb : Below w4.heap.size w4 W) => sound_val ⟨bs.toArray⟩ (soundB bs) W (by rw [bytes_size]; have := hm'.out; omega) (hT4 W hb) rfl
  have hrs := fun (W : World) => refSound_val ⟨bs.toArray⟩ (soundB bs) W (by rw [bytes_size]; have := hm'.out; omega) rfl
  obtain ⟨sb, hsbe⟩ : ∃ sb, soundB bs = sb := ⟨_, rfl⟩
  rw [hsbe] at hsb hrs
  have hR1 := Lib.hid (fun (W : World) (hb : Below w4.heap.size w4 W) => refText_as hob'.out (refOf_any A bs m cap W (hA4 W hb) hm'.out hc (by omega) (by have := hm'.out; omega)))
  have hR4 := Lib.hid (fun (W : World) (hb : Below w4.heap.size w4 W) => sound_val ⟨ob.toArray⟩ true W (by rw [bytes_size]; have := hobl.out; omega) (hT4 W hb) (decide_eq_true (by rw [← hob'.out]; exact sound_of bs)))
  have hR5 := Lib.hid (fun (W : World) (A' : Option Addr) (n' c' : Nat) (hb : Below w4.heap.size w4 W) (hn : n' = ob.length) (hr : Rd W (· < W.heap.size) A' ob) => soundOf_as (show ofB ob = ob by rw [← hob'.out]; exact of_of bs) (of_any ob A' n' c' W hn hr (hT4 W hb) (by have := hobl.out; omega)))
  have hR6 := Lib.hid (fun (W : World) (hb : Below w4.heap.size w4 W) => works_any W (hT4 W hb))
  obtain ⟨cF, wF, hstr⟩ : ∃ (cF : World → Nat) (wF : World → World), ∀ W, (convert 9 22 (.string ⟨ob.toArray⟩)).run Tryd.prog W = .ok (.slice (some ⟨W.heap.size, 0, none⟩) ob.length (cF W)) (wF W) ∧ Rd (wF W) (· = W.heap.size) (some ⟨W.heap.size, 0, none⟩) ob ∧ Below W.heap.size W (wF W) ∧ (wF W).heap.size = W.heap.size + 1 := by
    have hs := fun W => str_bytes W ⟨ob.toArray⟩ (by rw [bytes_size]; have := hobl.out; unfold maxLen; omega)
    rw [bytes_size] at hs
    exact ⟨fun W => (hs W).choose, fun W => (hs W).choose_spec.choose, fun W => ⟨(hs W).choose_spec.choose_spec.1, (hs W).choose_spec.choose_spec.2.1, (hs W).choose_spec.choose_spec.2.2.1, (hs W).choose_spec.choose_spec.2.2.2.1⟩⟩
  have hsc := fun W => (hstr W).1
  have hstr' := Lib.hid (fun W => (hstr W).2)
  have hsb' := Lib.hid hsb
  have hrs' := Lib.hid hrs
  have hb0 := Lib.hid (Below.refl w4.heap.size w4)
  clear hsb hrs hsbe hA4 hr4 hT4 hob hb4 hstr
  have hci : (m : Int) + 1 ≤ (c3 : Int) := by omega
  have hci0 : (0 : Int) ≤ (m : Int) + 1 := by omega
  have hci1 : (m : Int) < (m : Int) + 1 := by omega
  have hwr : IntKind.i64.wrap ((m : Int) + 1) = (m : Int) + 1 := wraps_i64 _ (by omega) (by omega)
  rw [show Op.convert 9 22 (.tmp 37) = cvOp from rfl]
  cases sb
  all_goals
    go_region_held3 (fun W => (convert 22 9 (.slice A m cap)).run Tryd.prog W = .ok (.string ⟨bs.toArray⟩) W ∧ (convert 22 9 (.slice (some ⟨g3, 0, none⟩) m c3)).run Tryd.prog W = .ok (.string ⟨bs.toArray⟩) W ∧ W.cell? ⟨g3, m, none⟩ = some (.int .u8 77))
      (first | with_reducible exact hall.out _ hb11.out | with_reducible exact hall.out _ hb10.out | with_reducible exact hall.out _ hb9.out | with_reducible exact hall.out _ hb8.out | with_reducible exact hall.out (wF w8) (hb8.out.trans ((hstr'.out w8).2.1.mono hb8.out.size)) | with_reducible exact hall.out _ hb7.out | with_reducible exact hall.out _ hb6.out | with_reducible exact hall.out _ hb5.out | with_reducible exact hall.out _ hb0.out | with_reducible exact hall.out _ hb0.out.drew)
      (first
      | (go_at_call 13; (with_reducible refine Calls.mono (hR1.out _ hb0.out.drew) ?_); rintro e w5 ⟨rfl, hb5d⟩; have hb5 := Lib.hid (hb0.out.drew.trans hb5d); clear hb5d)
      | (go_at_call 14; (with_reducible refine Calls.mono (hsb'.out _ hb5.out) ?_); rintro e w6 ⟨rfl, hb6d⟩; have hb6 := Lib.hid (hb5.out.trans (hb6d.mono hb5.out.size)); clear hb6d)
      | (go_at_call 15; (with_reducible refine Calls.mono (hrs'.out _) ?_); rintro e w7 ⟨rfl, hb7d⟩; have hb7 := Lib.hid (hb6.out.trans (hb7d.mono hb6.out.size)); clear hb7d)
      | (go_at_call 14; (with_reducible refine Calls.mono (hR4.out _ hb7.out) ?_); rintro e w8 ⟨rfl, hb8d⟩; have hb8 := Lib.hid (hb7.out.trans (hb8d.mono hb7.out.size)); clear hb8d)
      | (go_at_call 12; refine (hR5.out (wF w8) _ _ _ (hb8.out.trans ((hstr'.out w8).2.1.mono hb8.out.size)) rfl ((hstr'.out w8).1.mono (fun b (hb : b = w8.heap.size) => by have := (hstr'.out w8).2.2; omega))).mono ?_; rintro e w10 ⟨rfl, hb10d⟩; have hb9 := Lib.hid (hb8.out.trans ((hstr'.out w8).2.1.mono hb8.out.size)); have hb10 := Lib.hid (hb9.out.trans (hb10d.mono hb9.out.size)); clear hb10d)
      | (go_at_call 11; (with_reducible refine Calls.mono (hR6.out _ hb10.out) ?_); rintro e w11 ⟨rfl, hb11d⟩; have hb11 := Lib.hid (hb10.out.trans (hb11d.mono hb10.out.size)); clear hb11d))
  all_goals
    go_wp2
    go_ret
    exact ⟨rfl, hB4.out.trans (hb11.out.mono hB4.out.size)⟩
end Go.Proofs.YtkpbdamkdlbhmaaDoor
