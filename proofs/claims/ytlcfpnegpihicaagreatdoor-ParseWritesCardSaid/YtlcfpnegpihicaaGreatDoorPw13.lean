import Derived.Test.YtlcfpnegpihicaaGreatDoorPw10
import Derived.Test.YtlcfpnegpihicaaGreatDoorPw12
import Derived.Deep.RegionHeld3
import Derived.Laws.AppendOwn
namespace Go.Proofs.YtlcfpnegpihicaaGreatDoor
open Go.RowKit Go.Shelf

/-! ## The document's decoder -/
def lenOf : Value → Nat
  | .slice _ n _ => n
  | _ => 0
theorem run4_len1 (l : List UInt8) : (run4 l).1.length ≤ 3 * l.length := by
  have h := of_run l
  have h2 := ofB_len l
  rw [h, List.length_append] at h2
  omega
/-- Bytes somewhere at n0 or behind it. -/
def Held (W : World) (n0 : Nat) (v : Value) (l : List UInt8) : Prop := ∃ A c, v = .slice A l.length c ∧ l.length ≤ c ∧ c ≤ 9223372036854775807 ∧ Rd W (fun b => n0 ≤ b ∧ b < W.heap.size) A l
theorem Held.below {W W' : World} {n0 : Nat} {v : Value} {l : List UInt8} (h : Held W n0 v l) (hb : Below W.heap.size W W') : Held W' n0 v l := by
  obtain ⟨A, c, h1, h2, h3, h4⟩ := h
  exact ⟨A, c, h1, h2, h3, (h4.kept (Kept.below hb (fun b hb' => hb'.2))).mono (fun b hb' => ⟨hb'.1, Nat.lt_of_lt_of_le hb'.2 hb.size⟩)⟩
theorem Bs.held {W : World} {n0 : Nat} {v : Value} {l : List UInt8} (h : Bs W n0 v l) : Held W n0 v l := by
  have hh := h
  rcases h.2 with ⟨rfl, h0⟩ | ⟨g, cap, cur, rfl, hb, hg, hnc, hcm, _⟩
  · exact ⟨none, 0, by rw [h0], by omega, by omega, fun hl => by omega⟩
  · exact ⟨_, cap, rfl, hnc, by have := hcm; unfold maxLen at this; omega, fun _ => ⟨_, rfl, ⟨hb, (Array.getElem?_eq_some_iff.1 hg).1⟩, fun j u hu => World.ownsRow.cells (g := g) hh rfl j u hu⟩⟩
/-- What the document's Write answers: what waits, and what is told. -/
def RefWrote (x : List UInt8) (w : World) (e : Ending) (w' : World) : Prop :=
  ∃ v, e = .returned (.tuple #[.agg #[v], .string ⟨(run4 x).1.toArray⟩]) ∧ Held w' w.heap.size v (run4 x).2 ∧ Below w.heap.size w w'
theorem empty_own (w : World) : Bs (w.alloc (.cells #[] 5)) w.heap.size (.slice (some ⟨w.heap.size, 0, none⟩) 0 0) [] := own_empty w 5
theorem ret_kept {n0 g : Nat} {w3 w4 : World} (hb : Below w3.heap.size w3 w4) (hg : g < n0) (u : Value) : Kept (fun b => n0 ≤ b ∧ b < w3.heap.size) w3 ((w4.setCell ⟨g, 0, none⟩ u).drew) := by
  have h : Kept (fun b => n0 ≤ b ∧ b < w3.heap.size) w3 (w4.setCell ⟨g, 0, none⟩ u) := (Kept.below hb (fun b hb' => hb'.2)).setCell (fun h => by have h := h.1; simp only at h; omega) u
  exact h
theorem ret_below {B : Nat} {w w4 : World} {g : Nat} (hb : Below B w w4) (hg : B ≤ g) (u : Value) : Below B w ((w4.setCell ⟨g, 0, none⟩ u).drew) := (hb.setCell (p := ⟨g, 0, none⟩) hg u).drew
theorem ret_kept4 {n1 g : Nat} {wr w4 : World} (hb : Below wr.heap.size wr w4) (hg : g < n1) (u : Value) : Kept (fun b => n1 ≤ b ∧ b < wr.heap.size) wr ((w4.setCell ⟨g, 0, none⟩ u).drew) := ret_kept hb hg u
theorem held_ret {n0 g : Nat} {w3 w4 : World} {A : Option Addr} {n c : Nat} {y : List UInt8} {w : World} (hr : Rd w3 (fun b => n0 ≤ b ∧ b < w3.heap.size) A y) (hb : Below w3.heap.size w3 w4) (hg : g < n0) (hw : w.heap.size ≤ n0) (hn : n = y.length) (hc : n ≤ c) (hcm : c ≤ 9223372036854775807) (u : Value) :
    Held ((w4.setCell ⟨g, 0, none⟩ u).drew) w.heap.size (.slice A n c) y := by
  subst hn
  refine ⟨A, c, rfl, hc, hcm, (hr.kept (ret_kept hb hg u)).mono (fun b hb' => ⟨by have := hb'.1; omega, ?_⟩)⟩
  have h1 := hb'.2
  have h2 := hb.size
  show b < (w4.setCell ⟨g, 0, none⟩ u).heap.size
  simp
  omega
set_option maxRecDepth 100000 in
set_option maxHeartbeats 2000000 in
theorem refWrite_any (A B : Option Addr) (ws bs : List UInt8) (n1 c1 n2 c2 : Nat) (w : World) (hA : Rd w (· < w.heap.size) A ws) (hB : Rd w (· < w.heap.size) B bs) (hn1 : n1 = ws.length) (hn2 : n2 = bs.length) (hl1 : n1 ≤ 1000) (hl2 : n2 ≤ 1000) :
    Calls Tryz.prog 47 #[.agg #[.slice A n1 c1], .slice B n2 c2] w (RefWrote (ws ++ bs) w) := by
  have hn1' := Lib.hid hn1
  have hn2' := Lib.hid hn2
  have hb2 : Below w.heap.size w ((w.alloc (.cells #[.slice A n1 c1] 47)).alloc (.cells #[.slice none 0 0] 47)) := ((Below.refl _ _).alloc (Nat.le_refl _) _).alloc (by simp) _
  have k1 := Has.new (w.alloc (.cells #[.slice A n1 c1] 47)) 47 #[.slice none 0 0]
  have hE := empty_own ((w.alloc (.cells #[.slice A n1 c1] 47)).alloc (.cells #[.slice none 0 0] 47))
  simp only [World.size_alloc] at k1 hE
  have hb3 : Below (w.heap.size + 1 + 1) ((w.alloc (.cells #[.slice A n1 c1] 47)).alloc (.cells #[.slice none 0 0] 47)) (((w.alloc (.cells #[.slice A n1 c1] 47)).alloc (.cells #[.slice none 0 0] 47)).alloc (.cells #[] 5)) := (Below.refl _ _).alloc (by simp) _
  have hA3 := Lib.hid (hA.kept (Kept.below (hb2.trans (hb3.mono (by omega))) (fun _ h => h)))
  have hB3 := Lib.hid (hB.kept (Kept.below hb2 (fun _ h => h)))
  have hE' := Lib.hid hE
  have k1' := Lib.hid k1
  have hb2' := Lib.hid hb2
  have hb3' := Lib.hid hb3
  clear hA hB hn1 hn2 hE k1 hb2 hb3
  go_enter Tryz.func47, Tryz.ntmps47
  go_wp2_with (first
    | (at_builtin; refine wpList_append_rd rfl _ _ rfl rfl hE'.out _ A ws n1 c1 hn1'.out rfl hA3.out (by have := hn1'.out; simp; omega) (by simp) ?_; intro v2 w2 hv2 hg2; have hv2' := Lib.hid hv2; have hB2 := Lib.hid (hb3'.out.grown hg2 (by simp) (fun g e => (hE'.out.own g e).1)); have hB4 := Lib.hid (hB3.out.kept (Kept.below (hB2.out.mono (show w.heap.size ≤ w.heap.size + 1 + 1 by omega)) (fun _ h => h))); clear hv2 hg2)
    | (at_builtin; refine wpList_append_rd rfl _ _ rfl rfl hv2'.out _ B bs n2 c2 hn2'.out rfl hB4.out (by have := hn1'.out; have := hn2'.out; simp; omega) (by have := hB2.out.size; simp at this; omega) ?_; intro v3 w3 hv3 hg3; have hv3' := Lib.hid hv3; have hB5 := Lib.hid (hB2.out.grown hg3 (by have := hB2.out.size; simp at this; omega) (fun g e => (hv2'.out.own g e).1)); clear hv3 hg3)
    | fail)
  have hz3 := hB5.out.size
  simp only [World.size_alloc] at hz3
  have hxl : Hid ((ws ++ bs).length ≤ 2000) := Lib.hid (by have := hn1'.out; have := hn2'.out; simp; omega)
  obtain ⟨A0, c0, hve, hcl0, hcm0, hr0⟩ := hv3'.out.held
  rw [List.nil_append] at hve hcl0 hr0
  obtain ⟨x, hx⟩ : ∃ x, ws ++ bs = x := ⟨_, rfl⟩
  rw [hx] at hxl hve hcl0 hr0 ⊢
  have hBw := Lib.hid (hb2'.out.trans (hB5.out.mono (show w.heap.size ≤ w.heap.size + 1 + 1 by omega)))
  have k3 := Lib.hid (k1'.out.below hB5.out (by omega))
  have hx' := Lib.hid hx
  clear hv3' hB5 hB4 hB3 hA3 hB2 hv2' hx hE' k1'
  subst hve
  have hr0' := Lib.hid hr0
  have hcl0' := Lib.hid hcl0
  have hcm0' := Lib.hid hcm0
  clear hr0 hcl0 hcm0
  go_loopw [6, 7] (fun v6 v7 W => ∃ (y o : List UInt8) (A' : Option Addr) (n' c' : Nat), v6 = .slice A' n' c' ∧ n' = y.length ∧ n' ≤ c' ∧ c' ≤ 9223372036854775807 ∧ n' ≤ 2000 ∧ Rd w3 (fun b => w.heap.size + 1 + 1 ≤ b ∧ b < w3.heap.size) A' y ∧ Bs W w3.heap.size v7 o ∧ run4 x = (o ++ (run4 y).1, (run4 y).2) ∧ Below w3.heap.size w3 W) (fun v6 _ _ => lenOf v6)
  case atStart => exact ⟨x, [], A0, x.length, c0, rfl, rfl, hcl0'.out, hcm0'.out, hxl.out, hr0'.out, bs_nil _ _, by simp, Below.refl _ _⟩
  case round =>
    obtain ⟨y, o, A', n', c', rfl, hny, hnc, hcm, hn2k, hr, hv, hrun, hb⟩ := hrel
    have hny' := Lib.hid hny
    have hr' := Lib.hid hr
    have hv' := Lib.hid hv
    have hrun' := Lib.hid hrun
    have hb' := Lib.hid hb
    by_cases hlt : 0 < n'
    · obtain ⟨ad, rfl, hadb, _⟩ := hr (by omega)
      have hrW : Rd wr (· < wr.heap.size) (some ad) y := (hr.kept (Kept.below hb (fun b hb' => hb'.2))).mono (fun b (hb' : _ ∧ _) => Nat.lt_of_lt_of_le hb'.2 hb.size)
      have hf := first_any ad y n' c' wr hrW hny (by omega) hnc hcm
      unfold FirstOf at hf
      have hyn : y ≠ [] := by rintro rfl; simp at hny; omega
      have hls := look_size hyn
      have hpi := look_isPt y
      have hol : o.length ≤ 6000 := by
        have h1 := run4_len1 x
        rw [hrun] at h1
        have h2 := hxl.out
        simp only [List.length_append] at h1
        omega
      by_cases hst : (look y).st = 2
      · have hrs := run4_short hst
        rw [hst] at hf
        obtain ⟨A7, c7, rfl, hr7⟩ := hv.shape
        have hf' := Lib.hid hf
        have hr7' := Lib.hid hr7
        clear hf hr hrW hv hb hny hls hpi hr7
        generalize ((look y).point : Int) = pt at hf'
        generalize ((look y).size : Int) = sz at hf'
        go_wp2_with (go_at_call 69; refine hf'.out.mono ?_; rintro e w4 ⟨rfl, hb4⟩)
        have hcv := fun (W2 : World) (hk : Kept (fun b => w3.heap.size ≤ b ∧ b < wr.heap.size) wr W2) => (hr7'.out.kept hk).text (P := Tryz.prog) 22 9 5 c7 Tryz.underlying22 Tryz.underlying5 Tryz.underlying9
        have hB4 := hb'.out.trans (hb4.mono hb'.out.size)
        have kW := k3.out.below hB4 k3.out.lt
        have g1 := kW.cell 0
        have f1 := kW.free 0
        have hk4 : Kept (fun b => w3.heap.size ≤ b ∧ b < wr.heap.size) wr w4.drew := Kept.below hb4.drew (fun b hb' => hb'.2)
        have s0 := hcv w4.drew hk4
        have s1 := hcv (w4.setCell ⟨w.heap.size + 1, 0, none⟩ (.slice (some ad) n' c')).drew (ret_kept4 hb4 k3.out.lt _)
        have x0 := (kW.put 0 (.slice (some ad) n' c')).drew.cell 0
        have hB4' := Lib.hid hB4
        have hx1 : Hid ((run4 x).1 = o ∧ (run4 x).2 = y) := Lib.hid (by rw [hrun, hrs]; simp)
        have hr0' := hr'
        clear hcv hb4 hk4 hB4 kW hrs hrun
        go_region
        all_goals
          go_wp2
          refine bodyPost_ret (v := .tuple #[.agg #[.slice (some ad) n' c'], .string ⟨o.toArray⟩]) (by simp [results, Tryz.results47, go_sem, x0]) rfl ⟨.slice (some ad) n' c', by rw [hx1.out.1], by rw [hx1.out.2]; exact held_ret hr'.out hB4'.out (by omega) (by omega) hny'.out hnc hcm _, ret_below (hBw.out.trans (hB4'.out.mono hBw.out.size)) (by omega) _⟩
      · have hsp := run4_step hyn hst
        rw [told_pt] at hsp
        have hdr : (y.drop (look y).size).length = n' - (look y).size := by rw [List.length_drop, ← hny]
        have hszn : (look y).size ≤ n' := by omega
        have hsz1 := hls.1
        have hdc : decide ((look y).st ≠ 2) = true := decide_eq_true hst
        rw [hdc] at hf
        have hrd := hr.drop (look y).size c' (by omega)
        have hpb := ptB_len (look y).point
        generalize (look y).point = pt at hf hsp hpi hpb
        generalize (look y).size = sz at hf hsp hdr hszn hsz1 hrd
        have hby := Lib.hid (fun W => refBytes_any (pt : Int) pt W rfl hpi)
        have hrun2 : Hid (run4 x = ((o ++ ptB pt) ++ (run4 (y.drop sz)).1, (run4 (y.drop sz)).2)) := Lib.hid (by rw [hrun, hsp, List.append_assoc])
        have hf' := Lib.hid hf
        have hdr' := Lib.hid hdr
        have hrd' := Lib.hid hrd
        have hlen : Hid (o.length + (ptB pt).length ≤ 140737488355328) := Lib.hid (by omega)
        have hzi : (sz : Int) ≤ (n' : Int) := by omega
        have hnb := hb.size
        clear hf hsp hdr hrd hdc hst hpi hls hny hyn hr hrW hv hb hrun hol hpb
        have hcase : c' = sz ∨ sz < c' := by omega
        rcases hcase with rfl | hcs
        all_goals
          go_wp2_with (first
            | (go_at_call 69; (with_reducible refine Calls.mono hf'.out ?_); rintro e w4 ⟨rfl, hb4⟩; have hb4' := Lib.hid hb4; clear hb4)
            | (go_at_call 50; (with_reducible refine Calls.mono (hby.out _) ?_); rintro e w5 ⟨v5, rfl, hv5, hb5⟩; obtain ⟨A5, c5, rfl, hr5⟩ := hv5.shape; have hr5' := Lib.hid hr5; have hB45 := Lib.hid (hb4'.out.trans (hb5.mono hb4'.out.size)); have hv6 := Lib.hid (hv'.out.below hB45.out); clear hv5 hr5 hb5)
            | (at_builtin; refine wpList_append_rd rfl _ _ rfl rfl hv6.out _ A5 _ _ c5 rfl rfl hr5'.out hlen.out (by have := hB45.out.size; have := hb'.out.size; omega) ?_; intro v7 w7 hv7 hg7; have hv7' := Lib.hid hv7; have hg7' := Lib.hid hg7; clear hv7 hg7))
          have hbel := (hb'.out.trans (hB45.out.mono hnb)).grown hg7'.out (by have := hB45.out.size; omega) (fun g e => (hv6.out.own g e).1)
          first
            | exact ⟨⟨y.drop c', o ++ ptB pt, some ad, 0, 0, rfl, by rw [hdr'.out]; omega, Nat.le_refl _, by omega, by omega, fun h => absurd h (by rw [hdr'.out]; omega), hv7'.out, hrun2.out, hbel⟩, by simp [lenOf]; omega⟩
            | exact ⟨⟨y.drop sz, o ++ ptB pt, some (ad.add sz), n' - sz, c' - sz, rfl, hdr'.out.symm, by omega, by omega, by omega, by have := hrd'.out; rwa [if_neg (by omega)] at this, hv7'.out, hrun2.out, hbel⟩, by simp [lenOf]; omega⟩
    · have hy0 : y = [] := List.eq_nil_of_length_eq_zero (by omega)
      subst hy0
      obtain rfl : n' = 0 := by omega
      obtain ⟨A7, c7, rfl, hr7⟩ := hv.shape
      have hcv := fun (W2 : World) (hk : Kept (fun b => w3.heap.size ≤ b ∧ b < wr.heap.size) wr W2) => (hr7.kept hk).text (P := Tryz.prog) 22 9 5 c7 Tryz.underlying22 Tryz.underlying5 Tryz.underlying9
      have kW := k3.out.below hb k3.out.lt
      have g1 := kW.cell 0
      have f1 := kW.free 0
      have s0 := hcv wr.drew (Kept.below (Below.refl wr.heap.size wr).drew (fun b hb' => hb'.2))
      have s1 := hcv (wr.setCell ⟨w.heap.size + 1, 0, none⟩ (.slice none 0 0)).drew (ret_kept4 (Below.refl _ _) k3.out.lt _)
      have x0 := (kW.put 0 (.slice none 0 0)).drew.cell 0
      have hx1 : Hid ((run4 x).1 = o ∧ (run4 x).2 = []) := Lib.hid (by rw [hrun, run4_nil]; simp)
      clear hcv hr hv hb hny hrun hr7 kW
      go_wp2
      go_region
      all_goals
        go_wp2
        refine bodyPost_ret (v := .tuple #[.agg #[.slice none 0 0], .string ⟨o.toArray⟩]) (by simp [results, Tryz.results47, go_sem, x0]) rfl ⟨.slice none 0 0, by rw [hx'.out, hx1.out.1], by rw [hx'.out, hx1.out.2]; exact ⟨none, 0, rfl, by simp, by omega, fun h => absurd h (by simp)⟩, ret_below (hBw.out.trans (hb'.out.mono hBw.out.size)) (by omega) _⟩
/-! ## The document's End -/
end Go.Proofs.YtlcfpnegpihicaaGreatDoor

namespace Go.Proofs.YtlcfpnegpihicaaGreatDoor
open Go.RowKit Go.Shelf

/-! ## The mark, left out -/
def markB (t : List UInt8) : Bool := decide (t.take 3 = [239, 187, 191])
def trimL (t : List UInt8) : List UInt8 := if markB t = true then t.drop 3 else t
theorem extract_three (s : ByteArray) : (s.extract 0 3).toList = s.data.toList.take 3 := by
  rw [ByteArray.toList_eq, ByteArray.data_extract, Array.toList_extract]
  simp
theorem markB_len {t : List UInt8} (h : markB t = true) : 3 ≤ t.length := by
  unfold markB at h
  have h := of_decide_eq_true h
  have := congrArg List.length h
  rw [List.length_take] at this
  simp at this
  omega
theorem hasPrefix_any (s : ByteArray) (w : World) : Calls Tryz.prog 156 #[.string s, .string ⟨#[239, 187, 191]⟩] w fun e w' => e = .returned (.bool (markB s.data.toList)) ∧ w = w' := by
  have hsl : s.data.toList.length = s.size := by simp only [Array.length_toList]; rfl
  by_cases h : 3 ≤ s.size
  · have hi : (3 : Int) ≤ (s.size : Int) := by omega
    go_enter Tryz.func156, Tryz.ntmps156
    go_wp2
    go_ret
    refine ⟨ret_boolU ?_, rfl⟩
    rw [extract_three]
    unfold markB
    rw [Bool.eq_iff_iff, beq_iff_eq, decide_eq_true_iff]
  · have hi : (s.size : Int) < 3 := by omega
    have hf : markB s.data.toList = false := by
      cases hb : markB s.data.toList with
      | false => rfl
      | true => have := markB_len hb; omega
    rw [hf]
    clear hsl hf
    go_enter Tryz.func156, Tryz.ntmps156
    go_wp2
    go_ret
    exact ⟨rfl, rfl⟩
theorem litePrefix_any (s : ByteArray) (w : World) (hm : s.size ≤ 9223372036854775807) : Calls Tryz.prog 142 #[.string s, .string ⟨#[239, 187, 191]⟩] w fun e w' => e = .returned (.string ⟨(trimL s.data.toList).toArray⟩) ∧ w = w' := by
  have hsl : s.data.toList.length = s.size := by simp only [Array.length_toList]; rfl
  have hp := hasPrefix_any s w
  unfold trimL
  cases hb : markB s.data.toList with
  | true =>
    have h3 := markB_len hb
    have hi : (3 : Int) ≤ (s.size : Int) := by omega
    rw [hb] at hp
    have hp' := Lib.hid hp
    have hx := Lib.hid (extract_to_end s 3)
    clear hp hb hsl h3
    go_enter Tryz.func142, Tryz.ntmps142
    go_wp2_with (go_at_call 156; (with_reducible refine Calls.mono hp'.out ?_); rintro e w2 ⟨rfl, rfl⟩)
    go_ret
    refine ⟨?_, rfl⟩
    show Ending.returned (.string (s.extract 3 s.size)) = _
    rw [← hx.out]
  | false =>
    rw [hb] at hp
    have hp' := Lib.hid hp
    clear hp hb hsl
    go_enter Tryz.func142, Tryz.ntmps142
    go_wp2_with (go_at_call 156; (with_reducible refine Calls.mono hp'.out ?_); rintro e w2 ⟨rfl, rfl⟩)
    go_ret
    exact ⟨by simp, rfl⟩
theorem trimPrefix_any (s : ByteArray) (w : World) (hm : s.size ≤ 9223372036854775807) : Calls Tryz.prog 120 #[.string s, .string ⟨#[239, 187, 191]⟩] w fun e w' => e = .returned (.string ⟨(trimL s.data.toList).toArray⟩) ∧ w = w' := by
  have hp := Lib.hid (litePrefix_any s w hm)
  go_enter Tryz.func120, Tryz.ntmps120
  go_wp2_with (go_at_call 142; (with_reducible refine Calls.mono hp.out ?_); rintro e w2 ⟨rfl, rfl⟩)
  go_ret
  exact ⟨rfl, rfl⟩
end Go.Proofs.YtlcfpnegpihicaaGreatDoor
namespace Go.Proofs.YtlcfpnegpihicaaGreatDoor
open Go.RowKit Go.Shelf

/-! ## The text of bytes that come -/
def textL (any : Bool) (t : List UInt8) : List UInt8 := if any = false ∧ t ≠ [] then trimL t else t
def anyL (any : Bool) (t : List UInt8) : Bool := any || decide (t ≠ [])
/-- A text's bytes, in a row of their own. -/
theorem str_fun2 (s : ByteArray) (hs : s.size ≤ maxLen) : ∃ (cF : World → Nat) (wF : World → World), ∀ W, (convert 9 22 (.string s)).run Tryz.prog W = .ok (.slice (some ⟨W.heap.size, 0, none⟩) s.size (cF W)) (wF W) ∧ Rd (wF W) (· = W.heap.size) (some ⟨W.heap.size, 0, none⟩) s.data.toList ∧ Below W.heap.size W (wF W) ∧ (wF W).heap.size = W.heap.size + 1 ∧ s.size ≤ cF W ∧ cF W ≤ 9223372036854775807 ∧ ∃ cs fr, (wF W).heap[W.heap.size]? = some (.cells cs 5 fr) := by
  have key : ∀ W : World, ∃ c W', (convert 9 22 (.string s)).run Tryz.prog W = .ok (.slice (some ⟨W.heap.size, 0, none⟩) s.size c) W' ∧ Rd W' (· = W.heap.size) (some ⟨W.heap.size, 0, none⟩) s.data.toList ∧ Below W.heap.size W W' ∧ W'.heap.size = W.heap.size + 1 ∧ s.size ≤ c ∧ c ≤ 9223372036854775807 ∧ ∃ cs fr, W'.heap[W.heap.size]? = some (.cells cs 5 fr) := fun W => by
    obtain ⟨c, W', h1, h2⟩ := str_bytes W s hs
    have h3 := run_bytes_of_string W 9 22 5 s Tryz.underlying9 Tryz.underlying22 Tryz.underlying5
    rw [h1] at h3
    injection h3 with h3 h4
    subst h4
    obtain ⟨a1, a2, a3, a4, a5⟩ := h2
    exact ⟨c, _, h1, a1, a2, a3, a4, a5, _, _, World.alloc_heap_new W.drew _⟩
  exact ⟨fun W => (key W).choose, fun W => (key W).choose_spec.choose, fun W => (key W).choose_spec.choose_spec⟩
def Texted (sp dp : Nat) (vb mm : Value) (any long half : Bool) (ws b : List UInt8) (w : World) (e : Ending) (w' : World) : Prop :=
  ∃ g cs fr c, e = .returned (.slice (some ⟨g, 0, none⟩) (textL any (run4 (ws ++ b)).1).length c) ∧ (w.heap.size ≤ g ∧ w'.heap[g]? = some (.cells cs 5 fr)) ∧ Rd w' (· = g) (some ⟨g, 0, none⟩) (textL any (run4 (ws ++ b)).1) ∧ (textL any (run4 (ws ++ b)).1).length ≤ c ∧ c ≤ 9223372036854775807 ∧
    Has w' sp 168 #[.pointer (some ⟨dp, 0, none⟩), .bool (anyL any (run4 (ws ++ b)).1), vb, .bool long, mm, .bool half] ∧ Dec w' dp (run4 (ws ++ b)).2 ∧ Chg (fun k => k = sp ∨ k = dp) w w'
theorem trimL_len (t : List UInt8) : (trimL t).length ≤ t.length := by
  unfold trimL
  split
  · rw [List.length_drop]; omega
  · exact Nat.le_refl _
set_option maxRecDepth 100000 in
theorem text_any (sp dp : Nat) (vb mm : Value) (any long half : Bool) (ws b : List UInt8) (B : Option Addr) (n c : Nat) (w : World) (hs : Has w sp 168 #[.pointer (some ⟨dp, 0, none⟩), .bool any, vb, .bool long, mm, .bool half]) (hd : Dec w dp ws)
    (hn : n = b.length) (hr : Rd w (· < w.heap.size) B b) (hT : TabU w) (hl : n ≤ 1000000) :
    Calls Tryz.prog 101 #[.pointer (some ⟨sp, 0, none⟩), .slice B n c] w (Texted sp dp vb mm any long half ws b w) := by
  have hw := write_any dp ws b B n c w hd hn hr hT (by omega)
  have hlen : (run4 (ws ++ b)).1.length ≤ 3 * (3 + n) := by
    have h1 := run4_len1 (ws ++ b)
    have h2 := hd.len
    rw [List.length_append] at h1
    omega
  have hne : ¬ sp = dp := fun e => by
    subst e
    obtain ⟨_, _, _, _, _, h⟩ := hd
    exact Has.apart hs h (by decide) rfl
  unfold Wrote at hw
  unfold Texted
  obtain ⟨r, hre⟩ : ∃ r, run4 (ws ++ b) = r := ⟨_, rfl⟩
  rw [hre] at hw hlen ⊢
  obtain ⟨tl, ws'⟩ := r
  simp only at hw hlen ⊢
  have e0 := hs.cell 0
  have hs' := Lib.hid hs
  have hw' := Lib.hid hw
  clear hw hs hd hn hr hT hre
  by_cases hc : any = false ∧ tl ≠ []
  · obtain ⟨rfl, ht⟩ := hc
    have htx : textL false tl = trimL tl := by unfold textL; rw [if_pos ⟨rfl, ht⟩]
    have hax : anyL false tl = true := by unfold anyL; simp [ht]
    rw [htx, hax]
    have hsz : (⟨tl.toArray⟩ : ByteArray).size = tl.length := by show tl.toArray.size = _; simp
    have htp := Lib.hid (fun W => trimPrefix_any ⟨tl.toArray⟩ W (by rw [hsz]; omega))
    have hll := trimL_len tl
    obtain ⟨tt, htt⟩ : ∃ tt, trimL tl = tt := ⟨_, rfl⟩
    rw [htt] at hll htp ⊢
    have hsz2 : (⟨tt.toArray⟩ : ByteArray).size = tt.length := by show tt.toArray.size = _; simp
    obtain ⟨cF, wF, hstr⟩ := str_fun2 ⟨tt.toArray⟩ (by rw [hsz2]; unfold maxLen; omega)
    rw [hsz2] at hstr
    have hsc := fun W => (hstr W).1
    have hstr' := Lib.hid (fun W => (hstr W).2)
    have hie : tl.isEmpty = false := by cases tl with
      | nil => exact absurd rfl ht
      | cons => rfl
    clear hstr hsz hsz2 htt hax htx hll
    go_enter Tryz.func101, Tryz.ntmps101
    go_wp2_with (first
      | (go_at_call 119; (with_reducible refine Calls.mono hw'.out ?_); rintro e w2 ⟨rfl, hD2, hC2⟩; have hs2 := hC2.has hne hs'.out; have e1 := hs2.cell 1; have f1 := hs2.free 1; have hs2' := Lib.hid hs2; have hD2' := Lib.hid hD2; have hC2' := Lib.hid hC2; clear hs2 hD2 hC2)
      | (go_at_call 120; (with_reducible refine Calls.mono (htp.out _) ?_); rintro e w4 ⟨rfl, rfl⟩))
    go_ret
    obtain ⟨r1, r2, r3, r4, r5, cs6, fr6, r6⟩ := hstr'.out (w2.setCell ⟨sp, 1, none⟩ (.bool true))
    have hsw : (w2.setCell ⟨sp, 1, none⟩ (.bool true)).heap.size = w2.heap.size := by simp
    have hg := hC2'.out.size
    rw [hsw] at r1 r3 r6
    refine ⟨_, cs6, fr6, _, rfl, ⟨by omega, r6⟩, r1, r4, r5, ?_, ?_, ?_⟩
    · have := (hs2'.out.put 1 (.bool true)).below r2 (hs2'.out.put 1 (.bool true)).lt
      simpa using this
    · exact (hD2'.out.kept (Below.heap_setCell _ ⟨sp, 1, none⟩ _ dp (fun e => hne e.symm))).below r2
    · have hset : Chg (fun k => k = sp ∨ k = dp) w2 (w2.setCell ⟨sp, 1, none⟩ (.bool true)) := ⟨rfl, rfl, rfl, by simp, fun k _ hn => Below.heap_setCell _ ⟨sp, 1, none⟩ _ k (fun e => hn (.inl e))⟩
      exact ((hC2'.out.mono (fun k _ h => .inr h)).trans hset).trans (.of_below r2)
  · have htx : textL any tl = tl := by unfold textL; rw [if_neg hc]
    have hax : anyL any tl = any := by
      unfold anyL
      cases any with
      | true => rfl
      | false => simp at hc; simp [hc]
    rw [htx, hax]
    have hsz : (⟨tl.toArray⟩ : ByteArray).size = tl.length := by show tl.toArray.size = _; simp
    obtain ⟨cF, wF, hstr⟩ := str_fun2 ⟨tl.toArray⟩ (by rw [hsz]; unfold maxLen; omega)
    rw [hsz] at hstr
    have hsc := fun W => (hstr W).1
    have hstr' := Lib.hid (fun W => (hstr W).2)
    clear hstr hsz hax htx
    have hca : any = true ∨ (any = false ∧ tl = []) := by
      cases any with
      | true => exact .inl rfl
      | false => exact .inr ⟨rfl, Decidable.byContradiction fun h => hc ⟨rfl, h⟩⟩
    clear hc
    rcases hca with rfl | ⟨rfl, rfl⟩
    all_goals
      go_enter Tryz.func101, Tryz.ntmps101
      go_wp2_with (go_at_call 119; (with_reducible refine Calls.mono hw'.out ?_); rintro e w2 ⟨rfl, hD2, hC2⟩; have hs2 := hC2.has hne hs'.out; have e1 := hs2.cell 1; have f1 := hs2.free 1; have hs2' := Lib.hid hs2; have hD2' := Lib.hid hD2; have hC2' := Lib.hid hC2; clear hs2 hD2 hC2)
      go_ret
      obtain ⟨r1, r2, r3, r4, r5, cs6, fr6, r6⟩ := hstr'.out w2
      have hg := hC2'.out.size
      exact ⟨_, cs6, fr6, _, rfl, ⟨by omega, r6⟩, r1, r4, r5, hs2'.out.below r2 hs2'.out.lt, hD2'.out.below r2, (hC2'.out.mono (fun k _ h => .inr h)).trans (.of_below r2)⟩
end Go.Proofs.YtlcfpnegpihicaaGreatDoor

namespace Go.Proofs.YtlcfpnegpihicaaGreatDoor

/-! ## However bytes come in pieces: mathematics -/
theorem p65279 : ptB 65279 = [239, 187, 191] := by decide
theorem mark_split {t : List UInt8} (h : markB t = true) : t = ptB 65279 ++ t.drop 3 := by
  unfold markB at h
  have e : t.take 3 = [239, 187, 191] := of_decide_eq_true h
  rw [p65279, ← e, List.take_append_drop]
theorem markB_pt {n : Nat} (hn : isPt n) (y : List UInt8) : markB (ptB n ++ y) = decide (n = 65279) := by
  by_cases h : n = 65279
  · subst h
    rw [decide_eq_true rfl]
    unfold markB
    rw [p65279]
    exact decide_eq_true (by simp)
  · rw [decide_eq_false h]
    cases hb : markB (ptB n ++ y) with
    | false => rfl
    | true =>
      have e := mark_split hb
      have l1 := pt_look hn y
      have l2 := pt_look (n := 65279) (by decide) ((ptB n ++ y).drop 3)
      rw [← e, l1] at l2
      exact absurd (congrArg Look.point l2) h
theorem trim_pt {n : Nat} (hn : isPt n) (y : List UInt8) : trimL (ptB n ++ y) = if n = 65279 then y else ptB n ++ y := by
  unfold trimL
  rw [markB_pt hn]
  by_cases h : n = 65279
  · subst h
    rw [if_pos (by simp), if_pos rfl, p65279]
    rfl
  · rw [if_neg (by simpa using h), if_neg h]
/-- How a splitter stands: the bytes that wait, whether a point came, the line under way. -/
structure CSt where
  ws : List UInt8
  any : Bool
  l : LSt
def init0 : CSt := ⟨[], false, ⟨[], false, false⟩⟩
/-- Bytes come: the lines that end with them, and how it stands. -/
def stepC (most : Nat) (s : CSt) (x : List UInt8) : List (List UInt8 × Bool) × CSt :=
  ((runL most s.l (textL s.any (run4 (s.ws ++ x)).1)).1, ⟨(run4 (s.ws ++ x)).2, anyL s.any (run4 (s.ws ++ x)).1, (runL most s.l (textL s.any (run4 (s.ws ++ x)).1)).2⟩)
/-- What holds of every splitter. -/
structure CSt.ok (most : Nat) (s : CSt) : Prop where
  wait : run4 s.ws = ([], s.ws)
  line : s.l.ok most
  sound : SoundL s.l.bytes
  plain : noEnd s.l.bytes
theorem run_again (L : List UInt8) : run4 (run4 L).2 = ([], (run4 L).2) := by
  rcases run_wait L with h | h
  · rw [h, run4_nil]
  · exact run4_short h
theorem stepC_nil {most : Nat} {s : CSt} (h : s.ok most) : stepC most s [] = ([], s) := by
  unfold stepC
  rw [List.append_nil, h.wait]
  simp only
  have e1 : textL s.any [] = [] := by unfold textL; rw [if_neg (by simp)]
  have e2 : anyL s.any [] = s.any := by unfold anyL; simp
  rw [e1, e2]
  rfl
theorem sound_append {a b : List UInt8} (ha : SoundL a) (hb : SoundL b) : SoundL (a ++ b) := by
  refine along (P := fun a => SoundL a → SoundL (a ++ b)) (fun _ => hb) (fun l h0 ih hl => ?_) a ha
  obtain ⟨h1, h2⟩ := (sound_look h0).1 hl
  refine (sound_look (fun h => h0 (List.append_eq_nil_iff.1 h).1)).2 ?_
  rw [look_append b h0 (by omega)]
  refine ⟨h1, ?_⟩
  have hz := look_size h0
  rw [List.drop_append_of_le_length hz.2.2.1]
  exact ih h2
theorem run_sound (L : List UInt8) : SoundL (run4 L).1 := by
  refine along (P := fun L => SoundL (run4 L).1) (by rw [run4_nil]; exact sound_nil) (fun l h0 ih => ?_) L
  by_cases hs : (look l).st = 2
  · rw [run4_short hs]; exact sound_nil
  · rw [run4_step h0 hs, told_pt]
    exact sound_append (pt_sound (look_isPt l)) ih
theorem trim_sound {t : List UInt8} (h : SoundL t) : SoundL (trimL t) := by
  unfold trimL
  split
  · rename_i hm
    have e := mark_split hm
    have h0 : t ≠ [] := fun h => by rw [h] at e; rw [p65279] at e; cases e
    have hl := pt_look (n := 65279) (by decide) (t.drop 3)
    rw [← e] at hl
    have := ((sound_look h0).1 h).2
    rw [hl, p65279] at this
    exact this
  · exact h
theorem textL_sound (any : Bool) (L : List UInt8) : SoundL (textL any (run4 L).1) := by
  unfold textL
  split
  · exact trim_sound (run_sound L)
  · exact run_sound L
theorem addB_sound {most : Nat} {u b : List UInt8} {long : Bool} (hu : SoundL u) (hb : SoundL b) : SoundL (addB most u long b).1 := by
  unfold addB
  split
  · exact sound_nil
  · exact sound_append hu hb
theorem addB_plain {most : Nat} {u b : List UInt8} {long : Bool} (hu : noEnd u) (hb : noEnd b) : noEnd (addB most u long b).1 := by
  unfold addB
  split
  · exact fun c hc => absurd hc (by simp)
  · intro c hc
    rcases List.mem_append.1 hc with h | h
    · exact hu c h
    · exact hb c h
theorem noEnd_nil : noEnd [] := fun c hc => absurd hc (by simp)
theorem pt_plain {n : Nat} (h : isPt n) (h13 : n ≠ 13) (h10 : n ≠ 10) : noEnd (ptB n) := by
  obtain ⟨h1, _⟩ := h
  have key : ∀ m, m < 256 → m ≠ 13 → m ≠ 10 → u8 m ≠ 13 ∧ u8 m ≠ 10 := fun m hm ha hb =>
    ⟨fun e => ha (by have := congrArg UInt8.toNat e; rw [u8_toNat hm] at this; exact this), fun e => hb (by have := congrArg UInt8.toNat e; rw [u8_toNat hm] at this; exact this)⟩
  intro c hc
  unfold ptB at hc
  split at hc
  · obtain rfl : c = u8 n := by simpa using hc
    exact key _ (by omega) h13 h10
  · split at hc
    · have hc : c = u8 (192 + n / 64) ∨ c = u8 (128 + n % 64) := by simpa using hc
      rcases hc with rfl | rfl <;> exact key _ (by omega) (by omega) (by omega)
    · split at hc
      · have hc : c = u8 (224 + n / 4096) ∨ c = u8 (128 + n / 64 % 64) ∨ c = u8 (128 + n % 64) := by simpa using hc
        rcases hc with rfl | rfl | rfl <;> exact key _ (by omega) (by omega) (by omega)
      · have hc : c = u8 (240 + n / 262144) ∨ c = u8 (128 + n / 4096 % 64) ∨ c = u8 (128 + n / 64 % 64) ∨ c = u8 (128 + n % 64) := by simpa using hc
        rcases hc with rfl | rfl | rfl | rfl <;> exact key _ (by omega) (by omega) (by omega)
theorem ptB_ne (n : Nat) : ptB n ≠ [] := by unfold ptB; (repeat' split) <;> simp
/-- One point comes. -/
theorem runL_pt {most : Nat} {s : LSt} (hs : s.ok most) {n : Nat} (hn : isPt n) :
    runL most s (ptB n) = if s.half = true ∧ n = 10 then ([], ⟨s.bytes, s.long, false⟩)
      else if n = 13 ∨ n = 10 then ([(s.bytes, s.long)], ⟨[], false, decide (n = 13)⟩)
      else ([], ⟨(addB most s.bytes s.long (ptB n)).1, (addB most s.bytes s.long (ptB n)).2, false⟩) := by
  by_cases h13 : n = 13
  · subst h13
    have e : ptB 13 = [13] := by decide
    rw [e, if_neg (by simp), if_pos (.inl rfl)]
    simp [runL, stepL]
  · by_cases h10 : n = 10
    · subst h10
      have e : ptB 10 = [10] := by decide
      rw [e]
      by_cases hh : s.half = true
      · rw [if_pos ⟨hh, rfl⟩]; simp [runL, stepL, hh]
      · rw [if_neg (fun h => hh h.1), if_pos (.inr rfl)]; simp [runL, stepL, hh]
    · rw [if_neg (fun h => h10 h.2), if_neg (fun h => h.elim h13 h10)]
      exact runL_plain _ _ hs (pt_plain hn h13 h10) (ptB_ne n)
theorem runL_good {most : Nat} (t : List UInt8) : ∀ s : LSt, SoundL t → s.ok most → SoundL s.bytes → noEnd s.bytes →
    (∀ x ∈ (runL most s t).1, SoundL x.1 ∧ noEnd x.1 ∧ x.1.length ≤ most ∧ (x.2 = true → x.1 = [])) ∧ SoundL (runL most s t).2.bytes ∧ noEnd (runL most s t).2.bytes := by
  refine along (P := fun t => ∀ s : LSt, SoundL t → s.ok most → SoundL s.bytes → noEnd s.bytes →
    (∀ x ∈ (runL most s t).1, SoundL x.1 ∧ noEnd x.1 ∧ x.1.length ≤ most ∧ (x.2 = true → x.1 = [])) ∧ SoundL (runL most s t).2.bytes ∧ noEnd (runL most s t).2.bytes) ?_ ?_ t
  · intro s _ hs hb hp
    exact ⟨fun x hx => absurd hx (by simp [runL]), hb, hp⟩
  · intro l h0 ih s hl hs hb hp
    obtain ⟨h1, h2⟩ := (sound_look h0).1 hl
    obtain ⟨hw, hpt⟩ := whole_pt h1
    have e : l = ptB (look l).point ++ l.drop (look l).size := by rw [← hw, List.take_append_drop]
    generalize (look l).point = n at e hpt
    generalize l.drop (look l).size = r at e ih h2
    rw [e, runL_append]
    have hk := runL_ok (ptB n) s hs
    have hr := runL_pt hs hpt
    by_cases c1 : s.half = true ∧ n = 10
    · rw [if_pos c1] at hr
      rw [hr] at hk ⊢
      obtain ⟨g1, g2, g3⟩ := ih _ h2 hk hb hp
      exact ⟨fun x hx => g1 x (by simpa using hx), g2, g3⟩
    · rw [if_neg c1] at hr
      by_cases c2 : n = 13 ∨ n = 10
      · rw [if_pos c2] at hr
        rw [hr] at hk ⊢
        obtain ⟨g1, g2, g3⟩ := ih _ h2 hk sound_nil noEnd_nil
        refine ⟨fun x hx => ?_, g2, g3⟩
        rcases List.mem_append.1 hx with h | h
        · obtain rfl := List.mem_singleton.1 h
          exact ⟨hb, hp, hs.1, hs.2⟩
        · exact g1 x h
      · rw [if_neg c2] at hr
        rw [hr] at hk ⊢
        obtain ⟨g1, g2, g3⟩ := ih _ h2 hk (addB_sound hb (pt_sound hpt)) (addB_plain hp (pt_plain hpt (fun h => c2 (.inl h)) (fun h => c2 (.inr h))))
        exact ⟨fun x hx => g1 x (by simpa using hx), g2, g3⟩
theorem stepC_ok {most : Nat} {s : CSt} (h : s.ok most) (x : List UInt8) : (stepC most s x).2.ok most :=
  ⟨run_again _, runL_ok _ _ h.line, (runL_good _ s.l (textL_sound _ _) h.line h.sound h.plain).2.1, (runL_good _ s.l (textL_sound _ _) h.line h.sound h.plain).2.2⟩
theorem stepC_good {most : Nat} {s : CSt} (h : s.ok most) (x : List UInt8) : ∀ y ∈ (stepC most s x).1, SoundL y.1 ∧ noEnd y.1 ∧ y.1.length ≤ most ∧ (y.2 = true → y.1 = []) :=
  (runL_good _ s.l (textL_sound _ _) h.line h.sound h.plain).1
theorem init0_ok (most : Nat) : init0.ok most := ⟨run4_nil, ⟨Nat.zero_le _, fun _ => rfl⟩, sound_nil, noEnd_nil⟩
theorem runL_count {most : Nat} : ∀ (t : List UInt8) (s : LSt), (runL most s t).1.length ≤ t.length
  | [], _ => Nat.le_refl _
  | c :: r, s => by
    have ih := runL_count (most := most) r (stepL most s c).2
    have h1 : (stepL most s c).1.length ≤ 1 := by unfold stepL; (repeat' split) <;> simp
    simp only [runL, List.length_append, List.length_cons]
    omega
end Go.Proofs.YtlcfpnegpihicaaGreatDoor
namespace Go.Proofs.YtlcfpnegpihicaaGreatDoor
open Go.RowKit

/-! ## Lines in memory: a list of them -/
def linesC (l : List (List UInt8 × Bool)) : List Value := l.flatMap fun x => [.string ⟨x.1.toArray⟩, .bool x.2]
theorem linesC_append (l m : List (List UInt8 × Bool)) : linesC (l ++ m) = linesC l ++ linesC m := by simp [linesC]
theorem linesC_get : ∀ (l : List (List UInt8 × Bool)) (i : Nat) (x : List UInt8 × Bool), l[i]? = some x → (linesC l)[i * 2]? = some (.string ⟨x.1.toArray⟩) ∧ (linesC l)[i * 2 + 1]? = some (.bool x.2)
  | [], i, x, h => by simp at h
  | y :: l, 0, x, h => by
    obtain rfl : y = x := by simpa using h
    exact ⟨rfl, rfl⟩
  | y :: l, i + 1, x, h => by
    have := linesC_get l i x (by simpa using h)
    show ((.string ⟨y.1.toArray⟩) :: (.bool y.2) :: linesC l)[(i + 1) * 2]? = _ ∧ ((.string ⟨y.1.toArray⟩) :: (.bool y.2) :: linesC l)[(i + 1) * 2 + 1]? = _
    rw [show (i + 1) * 2 = i * 2 + 1 + 1 from by omega, List.getElem?_cons_succ, List.getElem?_cons_succ, List.getElem?_cons_succ, List.getElem?_cons_succ]
    exact this
theorem linesC_one (l : List (List UInt8 × Bool)) : ∀ u ∈ linesC l, u.oneCell' = true := by
  intro u hu
  obtain ⟨x, _, hu⟩ := List.mem_flatMap.1 hu
  rcases List.mem_cons.1 hu with rfl | hu
  · rfl
  · obtain rfl := List.mem_singleton.1 hu
    rfl
def Lns (W : World) (n0 : Nat) (v : Value) (l : List (List UInt8 × Bool)) : Prop := W.ownsRow n0 92 2 v l.length (linesC l)
theorem lns_nil (W : World) (n0 : Nat) : Lns W n0 (.slice none 0 0) [] := ⟨rfl, .inl ⟨rfl, rfl⟩⟩
/-- Where such a list lies: block g (of none: nowhere). -/
def LnsIn (W : World) (n0 : Nat) (A : Option Addr) (l : List (List UInt8 × Bool)) : Prop := 0 < l.length → ∃ g, A = some ⟨g, 0, none⟩ ∧ n0 ≤ g ∧ g < W.heap.size ∧ ∀ i x, l[i]? = some x → W.cell? ⟨g, i * 2, none⟩ = some (.string ⟨x.1.toArray⟩) ∧ W.cell? ⟨g, i * 2 + 1, none⟩ = some (.bool x.2)
section
variable {W W' : World} {n0 : Nat} {v : Value} {l : List (List UInt8 × Bool)}
theorem Lns.shape (h : Lns W n0 v l) : ∃ A c, v = .slice A l.length c ∧ LnsIn W n0 A l := by
  have hh := h
  rcases h.2 with ⟨rfl, h0⟩ | ⟨g, cap, cur, rfl, hb, hg, _⟩
  · exact ⟨none, 0, by rw [h0], fun hl => by omega⟩
  · refine ⟨_, cap, rfl, fun _ => ⟨g, rfl, hb, (Array.getElem?_eq_some_iff.1 hg).1, fun i x hx => ?_⟩⟩
    have c := fun j u hu => World.ownsRow.cells (g := g) hh rfl j u hu
    simp only [add_zero_, Nat.zero_add] at c
    exact ⟨c _ _ (linesC_get l i x hx).1, c _ _ (linesC_get l i x hx).2⟩
theorem Lns.own (h : Lns W n0 v l) : ∀ g, v.ownBlock = some g → n0 ≤ g ∧ ∃ cs, Has W g 92 cs := by
  intro g hg
  rcases h.2 with ⟨rfl, _⟩ | ⟨g', cap, cur, rfl, hb, hh, r⟩
  · cases hg
  · obtain rfl : g' = g := by simpa [Value.ownBlock] using hg
    exact ⟨hb, cur, hh⟩
theorem Lns.kept (h : Lns W n0 v l) (k : ∀ g, v.ownBlock = some g → W'.heap[g]? = W.heap[g]?) : Lns W' n0 v l := by
  refine ⟨h.1, ?_⟩
  rcases h.2 with h | ⟨g, cap, cur, rfl, hb, hg, r⟩
  · exact .inl h
  · exact .inr ⟨g, cap, cur, rfl, hb, (k g rfl).trans hg, r⟩
theorem Lns.below (h : Lns W n0 v l) (hb : Below W.heap.size W W') : Lns W' n0 v l := h.kept fun g hg => hb.block g (h.own g hg).2.choose_spec.lt
theorem LnsIn.below {A : Option Addr} (h : LnsIn W n0 A l) (hb : Below W.heap.size W W') : LnsIn W' n0 A l := fun hl => by
  obtain ⟨g, rfl, h1, h2, h3⟩ := h hl
  refine ⟨g, rfl, h1, Nat.lt_of_lt_of_le h2 hb.size, fun i x hx => ?_⟩
  exact ⟨(hb.cell (p := ⟨g, i * 2, none⟩) h2).trans (h3 i x hx).1, (hb.cell (p := ⟨g, i * 2 + 1, none⟩) h2).trans (h3 i x hx).2⟩
end
theorem infoLine : (Tryz.prog.info? 92).map (fun i => (i.zero, i.size, i.bytes)) = some (some (.agg #[.string ⟨#[]⟩, .bool false]), 2, 24) := by kernel_rfl
section
variable {w : World} {ops : Array Oper} {rest : List Oper} {o : Oper} {a : Act} {Q : Exit → Act → World → Prop} {n0 : Nat} {v : Value} {l : List (List UInt8 × Bool)}
theorem wpList_append_line (hgd : o.guard = none) (s x : Operand) (ho : o.op = .call { callee := .builtin .append, args := #[s, x], argTypes := #[86, 86] }) (hsv : a.eval s = v) (hv : Lns w n0 v l)
    (k : Nat) (p : List UInt8) (q : Bool) (hxv : a.eval x = .slice (some ⟨k, 0, none⟩) 1 1) (hx : Has w k 92 #[.string ⟨p.toArray⟩, .bool q]) (hs : l.length + 1 ≤ 1099511627776) (hn : n0 ≤ w.heap.size)
    (h : ∀ v' w', Lns w' n0 v' (l ++ [(p, q)]) → w.grownBy w' v.ownBlock → wpList Tryz.prog ops Q rest (a.put o.dst v') w') : wpList Tryz.prog ops Q (o :: rest) a w := by
  obtain ⟨i, hi, hz, hz1, hz2⟩ := info_parts infoLine
  refine wpList_append_own w hgd s x 86 ho n0 92 i _ 2 24 Tryz.underlying86 hi hz hz1 hz2 rfl (by decide) v l.length (linesC l) hsv hv ⟨k, 0, none⟩ 1 1 (linesC [(p, q)]) hxv rfl (fun j u hu => ?_) (linesC_one _) (by simp only [maxLen]; omega) (by omega) hn (fun v' w' h1 h2 _ => h v' w' ?_ h2)
  · rw [add_zero_, Nat.zero_add, hx.cell]
    simpa [linesC] using hu
  · unfold Lns
    rw [List.length_append, List.length_singleton, linesC_append]
    exact h1
end
end Go.Proofs.YtlcfpnegpihicaaGreatDoor
namespace Go.Proofs.YtlcfpnegpihicaaGreatDoor

/-! ## The document's splitter, point by point: mathematics -/
def oneL (most : Nat) (line : List UInt8) : List UInt8 × Bool := if most < line.length then ([], true) else (line, false)
def absR (most : Nat) (line : List UInt8) (half : Bool) : LSt := ⟨(oneL most line).1, (oneL most line).2, half⟩
theorem absR_ok (most : Nat) (line : List UInt8) (half : Bool) : (absR most line half).ok most := by
  unfold absR oneL
  split
  · exact ⟨Nat.zero_le _, fun _ => rfl⟩
  · exact ⟨by simp; omega, fun h => by simp at h⟩
def stepP (most : Nat) (line : List UInt8) (half : Bool) (p : Nat) : List (List UInt8 × Bool) × List UInt8 × Bool :=
  if half = true ∧ p = 10 then ([], line, false)
  else if p = 13 ∨ p = 10 then ([oneL most line], [], decide (p = 13))
  else ([], if line.length ≤ most then line ++ ptB p else line, false)
theorem stepP_runL {most : Nat} {line : List UInt8} {half : Bool} {p : Nat} (hp : isPt p) : runL most (absR most line half) (ptB p) = ((stepP most line half p).1, absR most (stepP most line half p).2.1 (stepP most line half p).2.2) := by
  rw [runL_pt (absR_ok most line half) hp]
  unfold stepP
  by_cases h1 : half = true ∧ p = 10
  · have h1' : (absR most line half).half = true ∧ p = 10 := h1
    rw [if_pos h1, if_pos h1']; rfl
  · have h1' : ¬ ((absR most line half).half = true ∧ p = 10) := h1
    rw [if_neg h1, if_neg h1']
    by_cases h2 : p = 13 ∨ p = 10
    · rw [if_pos h2, if_pos h2]
      simp [absR, oneL]
    · rw [if_neg h2, if_neg h2]
      simp only
      congr 1
      unfold absR oneL addB
      by_cases h3 : most < line.length
      · simp [h3, show ¬ line.length ≤ most by omega]
      · simp only [h3, if_false, show line.length ≤ most by omega, if_true]
        by_cases h4 : most < line.length + (ptB p).length
        · rw [if_pos (.inr h4), if_pos (by rw [List.length_append]; exact h4)]
        · rw [if_neg (by simp; omega), if_neg (by rw [List.length_append]; exact h4)]
def stepM (most : Nat) (s : Bool × List UInt8 × Bool) (p : Nat) : List (List UInt8 × Bool) × Bool × List UInt8 × Bool :=
  if s.1 = false ∧ p = 65279 then ([], true, s.2) else ((stepP most s.2.1 s.2.2 p).1, true, (stepP most s.2.1 s.2.2 p).2)
def runP (most : Nat) : Bool × List UInt8 × Bool → List Nat → List (List UInt8 × Bool) × Bool × List UInt8 × Bool
  | s, [] => ([], s)
  | s, p :: r => ((stepM most s p).1 ++ (runP most (stepM most s p).2 r).1, (runP most (stepM most s p).2 r).2)
theorem runP_append (most : Nat) : ∀ (a b : List Nat) (s : Bool × List UInt8 × Bool), runP most s (a ++ b) = ((runP most s a).1 ++ (runP most (runP most s a).2 b).1, (runP most (runP most s a).2 b).2)
  | [], b, s => by simp [runP]
  | p :: r, b, s => by
    have ih := runP_append most r b (stepM most s p).2
    simp only [List.cons_append, runP, ih, List.append_assoc]
theorem runP_next (most : Nat) (s : Bool × List UInt8 × Bool) {ps : List Nat} {k p : Nat} (h : ps[k]? = some p) :
    runP most s (ps.take (k + 1)) = ((runP most s (ps.take k)).1 ++ (stepM most (runP most s (ps.take k)).2 p).1, (stepM most (runP most s (ps.take k)).2 p).2) := by
  obtain ⟨hk, rfl⟩ := List.getElem?_eq_some_iff.1 h
  rw [List.take_succ_eq_append_getElem hk, runP_append]
  simp [runP]
theorem runP_true {most : Nat} : ∀ (ps : List Nat) (line : List UInt8) (half : Bool), (∀ p ∈ ps, isPt p) →
    runL most (absR most line half) (ps.flatMap ptB) = ((runP most (true, line, half) ps).1, absR most (runP most (true, line, half) ps).2.2.1 (runP most (true, line, half) ps).2.2.2) ∧ (runP most (true, line, half) ps).2.1 = true
  | [], line, half, _ => ⟨rfl, rfl⟩
  | p :: r, line, half, h => by
    have hp := h p List.mem_cons_self
    have hs : stepM most (true, line, half) p = ((stepP most line half p).1, true, (stepP most line half p).2) := by unfold stepM; rw [if_neg (by simp)]
    have ih := runP_true (most := most) r (stepP most line half p).2.1 (stepP most line half p).2.2 (fun q hq => h q (List.mem_cons_of_mem _ hq))
    rw [List.flatMap_cons, runL_append, stepP_runL hp]
    simp only [runP, hs]
    rw [ih.1]
    exact ⟨rfl, ih.2⟩
theorem runP_any {most : Nat} (any : Bool) (ps : List Nat) (line : List UInt8) (half : Bool) (h : ∀ p ∈ ps, isPt p) :
    runL most (absR most line half) (textL any (ps.flatMap ptB)) = ((runP most (any, line, half) ps).1, absR most (runP most (any, line, half) ps).2.2.1 (runP most (any, line, half) ps).2.2.2) ∧ (runP most (any, line, half) ps).2.1 = anyL any (ps.flatMap ptB) := by
  cases any with
  | true =>
    have := runP_true (most := most) ps line half h
    exact ⟨by unfold textL; rw [if_neg (by simp)]; exact this.1, by unfold anyL; simp [this.2]⟩
  | false =>
    cases ps with
    | nil => exact ⟨rfl, rfl⟩
    | cons p r =>
      have hp := h p List.mem_cons_self
      have hr : ∀ q ∈ r, isPt q := fun q hq => h q (List.mem_cons_of_mem _ hq)
      have hne : (p :: r).flatMap ptB ≠ [] := by
        rw [List.flatMap_cons]
        exact fun e => ptB_ne p (List.append_eq_nil_iff.1 e).1
      have hany : anyL false ((p :: r).flatMap ptB) = true := by unfold anyL; simp only [Bool.false_or, decide_eq_true_eq]; exact hne
      have htx : textL false ((p :: r).flatMap ptB) = if p = 65279 then r.flatMap ptB else ptB p ++ r.flatMap ptB := by
        unfold textL
        rw [if_pos ⟨rfl, hne⟩, List.flatMap_cons, trim_pt hp]
      rw [hany, htx]
      by_cases hm : p = 65279
      · have hs : stepM most (false, line, half) p = ([], true, line, half) := by unfold stepM; rw [if_pos ⟨rfl, hm⟩]
        have ih := runP_true (most := most) r line half hr
        rw [if_pos hm]
        simp only [runP, hs, List.nil_append]
        exact ih
      · have hs : stepM most (false, line, half) p = ((stepP most line half p).1, true, (stepP most line half p).2) := by unfold stepM; rw [if_neg (fun h => hm h.2)]
        have ih := runP_true (most := most) r (stepP most line half p).2.1 (stepP most line half p).2.2 hr
        rw [if_neg hm, runL_append, stepP_runL hp]
        simp only [runP, hs]
        rw [ih.1]
        exact ⟨rfl, ih.2⟩
/-- The points of a text. -/
def ptsL (t : List UInt8) : List Nat := (ptsOf t (placesFrom t 0)).map (·.2)
theorem ptsL_pt (t : List UInt8) : ∀ p ∈ ptsL t, isPt p := by
  intro p hp
  unfold ptsL ptsOf at hp
  rw [List.map_map] at hp
  obtain ⟨q, _, rfl⟩ := List.mem_map.1 hp
  exact look_isPt _
theorem ptsL_text {t : List UInt8} (h : SoundL t) : (ptsL t).flatMap ptB = t := by
  have h1 := conc_places t
  unfold SoundL at h
  rw [h] at h1
  conv => rhs; rw [← h1]
  unfold ptsL ptsOf conc
  rw [List.map_map, List.flatMap_map]
  congr 1
  funext p
  show ptB (look (t.drop p)).point = told (t.drop p)
  rw [told_pt]
/-- How the document's splitter stands. -/
structure RSt where
  ws : List UInt8
  line : List UInt8
  any : Bool
  half : Bool
def absC (most : Nat) (r : RSt) : CSt := ⟨r.ws, r.any, absR most r.line r.half⟩
def initR : RSt := ⟨[], [], false, false⟩
theorem absC_init (most : Nat) : absC most initR = init0 := by simp [absC, initR, init0, absR, oneL]
def stepR (most : Nat) (r : RSt) (x : List UInt8) : List (List UInt8 × Bool) × RSt :=
  ((runP most (r.any, r.line, r.half) (ptsL (run4 (r.ws ++ x)).1)).1, ⟨(run4 (r.ws ++ x)).2, (runP most (r.any, r.line, r.half) (ptsL (run4 (r.ws ++ x)).1)).2.2.1, (runP most (r.any, r.line, r.half) (ptsL (run4 (r.ws ++ x)).1)).2.1, (runP most (r.any, r.line, r.half) (ptsL (run4 (r.ws ++ x)).1)).2.2.2⟩)
theorem stepR_stepC (most : Nat) (r : RSt) (x : List UInt8) : stepC most (absC most r) x = ((stepR most r x).1, absC most (stepR most r x).2) := by
  have h := runP_any (most := most) r.any (ptsL (run4 (r.ws ++ x)).1) r.line r.half (ptsL_pt _)
  rw [ptsL_text (run_sound _)] at h
  unfold stepC stepR absC
  simp only
  rw [h.1, h.2]
theorem stepP_len {most : Nat} {line : List UInt8} {half : Bool} {p : Nat} (h : line.length ≤ most + 4) : (stepP most line half p).2.1.length ≤ most + 4 := by
  unfold stepP
  split
  · exact h
  · split
    · simp
    · simp only
      split
      · have := ptB_len p
        rw [List.length_append]; omega
      · exact h
theorem runP_len {most : Nat} : ∀ (ps : List Nat) (s : Bool × List UInt8 × Bool), s.2.1.length ≤ most + 4 → (runP most s ps).2.2.1.length ≤ most + 4
  | [], _, h => h
  | p :: r, s, h => by
    refine runP_len r _ ?_
    unfold stepM
    split
    · exact h
    · exact stepP_len h
theorem stepR_len {most : Nat} {r : RSt} (h : r.line.length ≤ most + 4) (x : List UInt8) : (stepR most r x).2.line.length ≤ most + 4 := runP_len _ (r.any, r.line, r.half) h
theorem runP_count {most : Nat} : ∀ (ps : List Nat) (s : Bool × List UInt8 × Bool), (runP most s ps).1.length ≤ ps.length
  | [], _ => Nat.le_refl _
  | p :: r, s => by
    have ih := runP_count (most := most) r (stepM most s p).2
    have h1 : (stepM most s p).1.length ≤ 1 := by unfold stepM stepP; (repeat' split) <;> simp
    simp only [runP, List.length_append, List.length_cons]
    omega
end Go.Proofs.YtlcfpnegpihicaaGreatDoor
