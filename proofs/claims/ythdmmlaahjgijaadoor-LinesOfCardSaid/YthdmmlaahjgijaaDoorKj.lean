import Derived.Test.YthdmmlaahjgijaaDoorKf
import Derived.Deep.RegionHeld3
namespace Go.Proofs.YthdmmlaahjgijaaDoor
open Go.RowKit Go.Shelf

/-! ## The document's decoder -/
def lenOf : Value → Nat
  | .slice _ n _ => n
  | _ => 0
theorem run4_len1 (l : List UInt8) : (run4 l).1.length ≤ 3 * l.length := by
  have h := of_run l
  have h2 := ofB_len l
  rw [h, List.length_append] at h2
  omega
/-- Bytes somewhere at n0 or behind it. -/
def Held (W : World) (n0 : Nat) (v : Value) (l : List UInt8) : Prop := ∃ A c, v = .slice A l.length c ∧ l.length ≤ c ∧ c ≤ 9223372036854775807 ∧ Rd W (fun b => n0 ≤ b ∧ b < W.heap.size) A l
theorem Held.below {W W' : World} {n0 : Nat} {v : Value} {l : List UInt8} (h : Held W n0 v l) (hb : Below W.heap.size W W') : Held W' n0 v l := by
  obtain ⟨A, c, h1, h2, h3, h4⟩ := h
  exact ⟨A, c, h1, h2, h3, (h4.kept (Kept.below hb (fun b hb' => hb'.2))).mono (fun b hb' => ⟨hb'.1, Nat.lt_of_lt_of_le hb'.2 hb.size⟩)⟩
theorem Bs.held {W : World} {n0 : Nat} {v : Value} {l : List UInt8} (h : Bs W n0 v l) : Held W n0 v l := by
  have hh := h
  rcases h.2 with ⟨rfl, h0⟩ | ⟨g, cap, cur, rfl, hb, hg, hnc, hcm, _⟩
  · exact ⟨none, 0, by rw [h0], by omega, by omega, fun hl => by omega⟩
  · exact ⟨_, cap, rfl, hnc, by have := hcm; unfold maxLen at this; omega, fun _ => ⟨_, rfl, ⟨hb, (Array.getElem?_eq_some_iff.1 hg).1⟩, fun j u hu => World.ownsRow.cells (g := g) hh rfl j u hu⟩⟩
/-- What the document's Write answers: what waits, and what is told. -/
def RefWrote (x : List UInt8) (w : World) (e : Ending) (w' : World) : Prop :=
  ∃ v, e = .returned (.tuple #[.agg #[v], .string ⟨(run4 x).1.toArray⟩]) ∧ Held w' w.heap.size v (run4 x).2 ∧ Below w.heap.size w w'
theorem empty_own (w : World) : Bs (w.alloc (.cells #[] 5)) w.heap.size (.slice (some ⟨w.heap.size, 0, none⟩) 0 0) [] := own_empty w 5
theorem ret_kept {n0 g : Nat} {w3 w4 : World} (hb : Below w3.heap.size w3 w4) (hg : g < n0) (u : Value) : Kept (fun b => n0 ≤ b ∧ b < w3.heap.size) w3 ((w4.setCell ⟨g, 0, none⟩ u).drew) := by
  have h : Kept (fun b => n0 ≤ b ∧ b < w3.heap.size) w3 (w4.setCell ⟨g, 0, none⟩ u) := (Kept.below hb (fun b hb' => hb'.2)).setCell (fun h => by have h := h.1; simp only at h; omega) u
  exact h
theorem ret_below {B : Nat} {w w4 : World} {g : Nat} (hb : Below B w w4) (hg : B ≤ g) (u : Value) : Below B w ((w4.setCell ⟨g, 0, none⟩ u).drew) := (hb.setCell (p := ⟨g, 0, none⟩) hg u).drew
theorem ret_kept4 {n1 g : Nat} {wr w4 : World} (hb : Below wr.heap.size wr w4) (hg : g < n1) (u : Value) : Kept (fun b => n1 ≤ b ∧ b < wr.heap.size) wr ((w4.setCell ⟨g, 0, none⟩ u).drew) := ret_kept hb hg u
theorem held_ret {n0 g : Nat} {w3 w4 : World} {A : Option Addr} {n c : Nat} {y : List UInt8} {w : World} (hr : Rd w3 (fun b => n0 ≤ b ∧ b < w3.heap.size) A y) (hb : Below w3.heap.size w3 w4) (hg : g < n0) (hw : w.heap.size ≤ n0) (hn : n = y.length) (hc : n ≤ c) (hcm : c ≤ 9223372036854775807) (u : Value) :
    Held ((w4.setCell ⟨g, 0, none⟩ u).drew) w.heap.size (.slice A n c) y := by
  subst hn
  refine ⟨A, c, rfl, hc, hcm, (hr.kept (ret_kept hb hg u)).mono (fun b hb' => ⟨by have := hb'.1; omega, ?_⟩)⟩
  have h1 := hb'.2
  have h2 := hb.size
  show b < (w4.setCell ⟨g, 0, none⟩ u).heap.size
  simp
  omega
set_option maxRecDepth 100000 in
set_option maxHeartbeats 2000000 in
theorem refWrite_any (A B : Option Addr) (ws bs : List UInt8) (n1 c1 n2 c2 : Nat) (w : World) (hA : Rd w (· < w.heap.size) A ws) (hB : Rd w (· < w.heap.size) B bs) (hn1 : n1 = ws.length) (hn2 : n2 = bs.length) (hl1 : n1 ≤ 1000) (hl2 : n2 ≤ 1000) :
    Calls Tryd.prog 27 #[.agg #[.slice A n1 c1], .slice B n2 c2] w (RefWrote (ws ++ bs) w) := by
  have hn1' := Lib.hid hn1
  have hn2' := Lib.hid hn2
  have hb2 : Below w.heap.size w ((w.alloc (.cells #[.slice A n1 c1] 43)).alloc (.cells #[.slice none 0 0] 43)) := ((Below.refl _ _).alloc (Nat.le_refl _) _).alloc (by simp) _
  have k1 := Has.new (w.alloc (.cells #[.slice A n1 c1] 43)) 43 #[.slice none 0 0]
  have hE := empty_own ((w.alloc (.cells #[.slice A n1 c1] 43)).alloc (.cells #[.slice none 0 0] 43))
  simp only [World.size_alloc] at k1 hE
  have hb3 : Below (w.heap.size + 1 + 1) ((w.alloc (.cells #[.slice A n1 c1] 43)).alloc (.cells #[.slice none 0 0] 43)) (((w.alloc (.cells #[.slice A n1 c1] 43)).alloc (.cells #[.slice none 0 0] 43)).alloc (.cells #[] 5)) := (Below.refl _ _).alloc (by simp) _
  have hA3 := Lib.hid (hA.kept (Kept.below (hb2.trans (hb3.mono (by omega))) (fun _ h => h)))
  have hB3 := Lib.hid (hB.kept (Kept.below hb2 (fun _ h => h)))
  have hE' := Lib.hid hE
  have k1' := Lib.hid k1
  have hb2' := Lib.hid hb2
  have hb3' := Lib.hid hb3
  clear hA hB hn1 hn2 hE k1 hb2 hb3
  go_enter Tryd.func27, Tryd.ntmps27
  go_wp2_with (first
    | (at_builtin; refine wpList_append_rd rfl _ _ rfl rfl hE'.out _ A ws n1 c1 hn1'.out rfl hA3.out (by have := hn1'.out; simp; omega) (by simp) ?_; intro v2 w2 hv2 hg2; have hv2' := Lib.hid hv2; have hB2 := Lib.hid (hb3'.out.grown hg2 (by simp) (fun g e => (hE'.out.own g e).1)); have hB4 := Lib.hid (hB3.out.kept (Kept.below (hB2.out.mono (show w.heap.size ≤ w.heap.size + 1 + 1 by omega)) (fun _ h => h))); clear hv2 hg2)
    | (at_builtin; refine wpList_append_rd rfl _ _ rfl rfl hv2'.out _ B bs n2 c2 hn2'.out rfl hB4.out (by have := hn1'.out; have := hn2'.out; simp; omega) (by have := hB2.out.size; simp at this; omega) ?_; intro v3 w3 hv3 hg3; have hv3' := Lib.hid hv3; have hB5 := Lib.hid (hB2.out.grown hg3 (by have := hB2.out.size; simp at this; omega) (fun g e => (hv2'.out.own g e).1)); clear hv3 hg3)
    | fail)
  have hz3 := hB5.out.size
  simp only [World.size_alloc] at hz3
  have hxl : Hid ((ws ++ bs).length ≤ 2000) := Lib.hid (by have := hn1'.out; have := hn2'.out; simp; omega)
  obtain ⟨A0, c0, hve, hcl0, hcm0, hr0⟩ := hv3'.out.held
  rw [List.nil_append] at hve hcl0 hr0
  obtain ⟨x, hx⟩ : ∃ x, ws ++ bs = x := ⟨_, rfl⟩
  rw [hx] at hxl hve hcl0 hr0 ⊢
  have hBw := Lib.hid (hb2'.out.trans (hB5.out.mono (show w.heap.size ≤ w.heap.size + 1 + 1 by omega)))
  have k3 := Lib.hid (k1'.out.below hB5.out (by omega))
  have hx' := Lib.hid hx
  clear hv3' hB5 hB4 hB3 hA3 hB2 hv2' hx hE' k1'
  subst hve
  have hr0' := Lib.hid hr0
  have hcl0' := Lib.hid hcl0
  have hcm0' := Lib.hid hcm0
  clear hr0 hcl0 hcm0
  go_loopw [6, 7] (fun v6 v7 W => ∃ (y o : List UInt8) (A' : Option Addr) (n' c' : Nat), v6 = .slice A' n' c' ∧ n' = y.length ∧ n' ≤ c' ∧ c' ≤ 9223372036854775807 ∧ n' ≤ 2000 ∧ Rd w3 (fun b => w.heap.size + 1 + 1 ≤ b ∧ b < w3.heap.size) A' y ∧ Bs W w3.heap.size v7 o ∧ run4 x = (o ++ (run4 y).1, (run4 y).2) ∧ Below w3.heap.size w3 W) (fun v6 _ _ => lenOf v6)
  case atStart => exact ⟨x, [], A0, x.length, c0, rfl, rfl, hcl0'.out, hcm0'.out, hxl.out, hr0'.out, bs_nil _ _, by simp, Below.refl _ _⟩
  case round =>
    obtain ⟨y, o, A', n', c', rfl, hny, hnc, hcm, hn2k, hr, hv, hrun, hb⟩ := hrel
    have hny' := Lib.hid hny
    have hr' := Lib.hid hr
    have hv' := Lib.hid hv
    have hrun' := Lib.hid hrun
    have hb' := Lib.hid hb
    by_cases hlt : 0 < n'
    · obtain ⟨ad, rfl, hadb, _⟩ := hr (by omega)
      have hrW : Rd wr (· < wr.heap.size) (some ad) y := (hr.kept (Kept.below hb (fun b hb' => hb'.2))).mono (fun b (hb' : _ ∧ _) => Nat.lt_of_lt_of_le hb'.2 hb.size)
      have hf := first_any ad y n' c' wr hrW hny (by omega) hnc hcm
      unfold FirstOf at hf
      have hyn : y ≠ [] := by rintro rfl; simp at hny; omega
      have hls := look_size hyn
      have hpi := look_isPt y
      have hol : o.length ≤ 6000 := by
        have h1 := run4_len1 x
        rw [hrun] at h1
        have h2 := hxl.out
        simp only [List.length_append] at h1
        omega
      by_cases hst : (look y).st = 2
      · have hrs := run4_short hst
        rw [hst] at hf
        obtain ⟨A7, c7, rfl, hr7⟩ := hv.shape
        have hf' := Lib.hid hf
        have hr7' := Lib.hid hr7
        clear hf hr hrW hv hb hny hls hpi hr7
        generalize ((look y).point : Int) = pt at hf'
        generalize ((look y).size : Int) = sz at hf'
        go_wp2_with (go_at_call 46; refine hf'.out.mono ?_; rintro e w4 ⟨rfl, hb4⟩)
        have hcv := fun (W2 : World) (hk : Kept (fun b => w3.heap.size ≤ b ∧ b < wr.heap.size) wr W2) => (hr7'.out.kept hk).text (P := Tryd.prog) 22 9 5 c7 Tryd.underlying22 Tryd.underlying5 Tryd.underlying9
        have hB4 := hb'.out.trans (hb4.mono hb'.out.size)
        have kW := k3.out.below hB4 k3.out.lt
        have g1 := kW.cell 0
        have f1 := kW.free 0
        have hk4 : Kept (fun b => w3.heap.size ≤ b ∧ b < wr.heap.size) wr w4.drew := Kept.below hb4.drew (fun b hb' => hb'.2)
        have s0 := hcv w4.drew hk4
        have s1 := hcv (w4.setCell ⟨w.heap.size + 1, 0, none⟩ (.slice (some ad) n' c')).drew (ret_kept4 hb4 k3.out.lt _)
        have x0 := (kW.put 0 (.slice (some ad) n' c')).drew.cell 0
        have hB4' := Lib.hid hB4
        have hx1 : Hid ((run4 x).1 = o ∧ (run4 x).2 = y) := Lib.hid (by rw [hrun, hrs]; simp)
        have hr0' := hr'
        clear hcv hb4 hk4 hB4 kW hrs hrun
        go_region
        all_goals
          go_wp2
          refine bodyPost_ret (v := .tuple #[.agg #[.slice (some ad) n' c'], .string ⟨o.toArray⟩]) (by simp [results, Tryd.results27, go_sem, x0]) rfl ⟨.slice (some ad) n' c', by rw [hx1.out.1], by rw [hx1.out.2]; exact held_ret hr'.out hB4'.out (by omega) (by omega) hny'.out hnc hcm _, ret_below (hBw.out.trans (hB4'.out.mono hBw.out.size)) (by omega) _⟩
      · have hsp := run4_step hyn hst
        rw [told_pt] at hsp
        have hdr : (y.drop (look y).size).length = n' - (look y).size := by rw [List.length_drop, ← hny]
        have hszn : (look y).size ≤ n' := by omega
        have hsz1 := hls.1
        have hdc : decide ((look y).st ≠ 2) = true := decide_eq_true hst
        rw [hdc] at hf
        have hrd := hr.drop (look y).size c' (by omega)
        have hpb := ptB_len (look y).point
        generalize (look y).point = pt at hf hsp hpi hpb
        generalize (look y).size = sz at hf hsp hdr hszn hsz1 hrd
        have hby := Lib.hid (fun W => refBytes_any (pt : Int) pt W rfl hpi)
        have hrun2 : Hid (run4 x = ((o ++ ptB pt) ++ (run4 (y.drop sz)).1, (run4 (y.drop sz)).2)) := Lib.hid (by rw [hrun, hsp, List.append_assoc])
        have hf' := Lib.hid hf
        have hdr' := Lib.hid hdr
        have hrd' := Lib.hid hrd
        have hlen : Hid (o.length + (ptB pt).length ≤ 140737488355328) := Lib.hid (by omega)
        have hzi : (sz : Int) ≤ (n' : Int) := by omega
        have hnb := hb.size
        clear hf hsp hdr hrd hdc hst hpi hls hny hyn hr hrW hv hb hrun hol hpb
        have hcase : c' = sz ∨ sz < c' := by omega
        rcases hcase with rfl | hcs
        all_goals
          go_wp2_with (first
            | (go_at_call 46; (with_reducible refine Calls.mono hf'.out ?_); rintro e w4 ⟨rfl, hb4⟩; have hb4' := Lib.hid hb4; clear hb4)
            | (go_at_call 18; (with_reducible refine Calls.mono (hby.out _) ?_); rintro e w5 ⟨v5, rfl, hv5, hb5⟩; obtain ⟨A5, c5, rfl, hr5⟩ := hv5.shape; have hr5' := Lib.hid hr5; have hB45 := Lib.hid (hb4'.out.trans (hb5.mono hb4'.out.size)); have hv6 := Lib.hid (hv'.out.below hB45.out); clear hv5 hr5 hb5)
            | (at_builtin; refine wpList_append_rd rfl _ _ rfl rfl hv6.out _ A5 _ _ c5 rfl rfl hr5'.out hlen.out (by have := hB45.out.size; have := hb'.out.size; omega) ?_; intro v7 w7 hv7 hg7; have hv7' := Lib.hid hv7; have hg7' := Lib.hid hg7; clear hv7 hg7))
          have hbel := (hb'.out.trans (hB45.out.mono hnb)).grown hg7'.out (by have := hB45.out.size; omega) (fun g e => (hv6.out.own g e).1)
          first
            | exact ⟨⟨y.drop c', o ++ ptB pt, some ad, 0, 0, rfl, by rw [hdr'.out]; omega, Nat.le_refl _, by omega, by omega, fun h => absurd h (by rw [hdr'.out]; omega), hv7'.out, hrun2.out, hbel⟩, by simp [lenOf]; omega⟩
            | exact ⟨⟨y.drop sz, o ++ ptB pt, some (ad.add sz), n' - sz, c' - sz, rfl, hdr'.out.symm, by omega, by omega, by omega, by have := hrd'.out; rwa [if_neg (by omega)] at this, hv7'.out, hrun2.out, hbel⟩, by simp [lenOf]; omega⟩
    · have hy0 : y = [] := List.eq_nil_of_length_eq_zero (by omega)
      subst hy0
      obtain rfl : n' = 0 := by omega
      obtain ⟨A7, c7, rfl, hr7⟩ := hv.shape
      have hcv := fun (W2 : World) (hk : Kept (fun b => w3.heap.size ≤ b ∧ b < wr.heap.size) wr W2) => (hr7.kept hk).text (P := Tryd.prog) 22 9 5 c7 Tryd.underlying22 Tryd.underlying5 Tryd.underlying9
      have kW := k3.out.below hb k3.out.lt
      have g1 := kW.cell 0
      have f1 := kW.free 0
      have s0 := hcv wr.drew (Kept.below (Below.refl wr.heap.size wr).drew (fun b hb' => hb'.2))
      have s1 := hcv (wr.setCell ⟨w.heap.size + 1, 0, none⟩ (.slice none 0 0)).drew (ret_kept4 (Below.refl _ _) k3.out.lt _)
      have x0 := (kW.put 0 (.slice none 0 0)).drew.cell 0
      have hx1 : Hid ((run4 x).1 = o ∧ (run4 x).2 = []) := Lib.hid (by rw [hrun, run4_nil]; simp)
      clear hcv hr hv hb hny hrun hr7 kW
      go_wp2
      go_region
      all_goals
        go_wp2
        refine bodyPost_ret (v := .tuple #[.agg #[.slice none 0 0], .string ⟨o.toArray⟩]) (by simp [results, Tryd.results27, go_sem, x0]) rfl ⟨.slice none 0 0, by rw [hx'.out, hx1.out.1], by rw [hx'.out, hx1.out.2]; exact ⟨none, 0, rfl, by simp, by omega, fun h => absurd h (by simp)⟩, ret_below (hBw.out.trans (hb'.out.mono hBw.out.size)) (by omega) _⟩
/-! ## The document's End -/
def RefEnded (ws : List UInt8) (w : World) (e : Ending) (w' : World) : Prop :=
  e = .returned (.tuple #[.agg #[.slice none 0 0], .string ⟨(if ws = [] then [] else inst : List UInt8).toArray⟩]) ∧ Below w.heap.size w w'
set_option maxRecDepth 100000 in
set_option maxHeartbeats 2000000 in
theorem refEnd_any (A : Option Addr) (ws : List UInt8) (n c : Nat) (w : World) (hn : n = ws.length) :
    Calls Tryd.prog 22 #[.agg #[.slice A n c]] w (RefEnded ws w) := by
  have hby := Lib.hid (fun W => refBytes_any (65533 : Int) 65533 W rfl (by unfold isPt; omega))
  have kb : Below w.heap.size w ((w.alloc (.cells #[.slice A n c] 43)).alloc (.cells #[.slice none 0 0] 43)) := ((Below.refl _ _).alloc (Nat.le_refl _) _).alloc (by simp) _
  have k1 := Has.new (w.alloc (.cells #[.slice A n c] 43)) 43 #[.slice none 0 0]
  simp only [World.size_alloc] at k1
  have k1' := Lib.hid k1
  have kb' := Lib.hid kb
  clear k1 kb
  by_cases h0 : ws = []
  · subst h0
    obtain rfl : n = 0 := by simpa using hn
    have x0 := k1'.out.cell 0
    have f1 := k1'.out.free 0
    clear hn
    go_enter Tryd.func22, Tryd.ntmps22
    go_wp2
    refine bodyPost_ret (v := .tuple #[.agg #[.slice none 0 0], .string ⟨#[]⟩]) (by simp [results, Tryd.results22, go_sem, x0]) rfl ⟨rfl, kb'.out⟩
  · have hp : 0 < n := by rw [hn]; exact List.length_pos_iff.2 h0
    have h0' := Lib.hid h0
    clear hn h0
    have e3 : (ptB 65533).length = 3 := by rw [ptB_inst]; rfl
    go_enter Tryd.func22, Tryd.ntmps22
    go_wp2_with fail
    obtain ⟨W, hW⟩ : ∃ W, (w.alloc (.cells #[.slice A n c] 43)).alloc (.cells #[.slice none 0 0] 43) = W := ⟨_, rfl⟩
    rw [hW] at k1' kb' ⊢
    clear hW
    have key : Calls Tryd.prog 18 #[.int .i64 65533] W.drew fun e w5 => ∃ (A5 : Option Addr) (c5 : Nat), e = .returned (.slice A5 3 c5) ∧ w5.cell? ⟨w.heap.size + 1, 0, none⟩ = some (.slice none 0 0) ∧ w5.frozen? ⟨w.heap.size + 1, 0, none⟩ = false ∧ (w5.setCell ⟨w.heap.size + 1, 0, none⟩ (.slice none 0 0)).cell? ⟨w.heap.size + 1, 0, none⟩ = some (.slice none 0 0) ∧
        (convert 22 9 (.slice A5 3 c5)).run Tryd.prog w5 = .ok (.string ⟨inst.toArray⟩) w5 ∧ (convert 22 9 (.slice A5 3 c5)).run Tryd.prog (w5.setCell ⟨w.heap.size + 1, 0, none⟩ (.slice none 0 0)) = .ok (.string ⟨inst.toArray⟩) (w5.setCell ⟨w.heap.size + 1, 0, none⟩ (.slice none 0 0)) ∧
        Hid (Below w.heap.size w (w5.setCell ⟨w.heap.size + 1, 0, none⟩ (.slice none 0 0))) := by
      refine (hby.out W.drew).mono ?_
      rintro e w5 ⟨v5, rfl, hv5, hb5⟩
      obtain ⟨A5, c5, rfl, hr5⟩ := hv5.shape
      have hb5' : Below W.heap.size W w5 := (Below.refl W.heap.size W).drew.trans hb5
      have k5 := k1'.out.below hb5' k1'.out.lt
      have hk : Kept (fun b => W.drew.heap.size ≤ b ∧ b < w5.heap.size) w5 (w5.setCell ⟨w.heap.size + 1, 0, none⟩ (.slice none 0 0)) := (Kept.refl _ w5).setCell (fun h => by have h1 : W.heap.size ≤ w.heap.size + 1 := h.1; have h2 := k1'.out.lt; omega) _
      have q5 := hr5.text (P := Tryd.prog) 22 9 5 c5 Tryd.underlying22 Tryd.underlying5 Tryd.underlying9
      have q6 := (hr5.kept hk).text (P := Tryd.prog) 22 9 5 c5 Tryd.underlying22 Tryd.underlying5 Tryd.underlying9
      rw [e3, ptB_inst] at q5 q6
      rw [e3]
      exact ⟨A5, c5, rfl, k5.cell 0, k5.free 0, (k5.put 0 (.slice none 0 0)).cell 0, q5, q6, (kb'.out.trans (hb5'.mono kb'.out.size)).setCell (p := ⟨w.heap.size + 1, 0, none⟩) (by simp) (.slice none 0 0)⟩
    have key' := Lib.hid key
    clear key hby
    go_region_with (go_at_call 18; (with_reducible refine Calls.mono key'.out ?_); rintro e w5 ⟨A5, c5, rfl, g5, f5, x5, q5, q6, hb6⟩)
    all_goals
      go_wp2
      refine bodyPost_ret (v := .tuple #[.agg #[.slice none 0 0], .string ⟨inst.toArray⟩]) (by simp [results, Tryd.results22, go_sem, x5]) rfl ⟨by rw [if_neg h0'.out], hb6.out⟩
end Go.Proofs.YthdmmlaahjgijaaDoor
