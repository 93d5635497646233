import Derived.Test.YtbmemkbfignlaaaGreatDoorPk15
namespace Go.Proofs.YtbmemkbfignlaaaGreatDoor
open Go.RowKit Go.Shelf
attribute [local go_sem] Oper.semAt_some

/-! ## A target is read -/
theorem cutT_any (k : UInt8) (s : List UInt8) (w : World) (hs : s.length ≤ 600000) (hM : MaxT w) : Calls Tryz.prog 64 #[.string ⟨s.toArray⟩, .string ⟨#[k]⟩] w fun e w' =>
    e = .returned (.tuple #[.string ⟨(s.take (atL k s)).toArray⟩, .string ⟨(s.drop (atL k s + 1)).toArray⟩, .bool (Lib.cut s [k]).2.2]) ∧ Below w.heap.size w w' := by
  obtain ⟨m, hm⟩ := hM
  have hc := Tryz.strings_Cut ⟨s.toArray⟩ ⟨#[k]⟩ m w (by show s.length < _; omega) (hm.cell 0)
  rw [show (⟨s.toArray⟩ : ByteArray).data.toList = s from rfl, show (⟨#[k]⟩ : ByteArray).data.toList = [k] from rfl, (cut_at k s).1, (cut_at k s).2] at hc
  exact hc.mono fun e w' ⟨he, n, hw⟩ => ⟨he, by rw [hw]; exact below_draws (Below.refl _ _) n⟩
theorem betw_le {k : UInt8} {s x : List UInt8} (h : x ∈ betw k s) : x.length ≤ s.length := betw_all h
theorem betw_many (k : UInt8) (s : List UInt8) : (betw k s).length ≤ s.length + 1 := by rw [betw_parts]; exact partsG_many k s
theorem betw_first (k : UInt8) (r : List UInt8) : betw k (k :: r) = [] :: betw k r := by rw [betw, if_pos rfl]
/-- What the path is: a /, and what is behind it. -/
theorem path_head {s : List UInt8} (h : s.head? = some 47) : s.take (atL 63 s) = 47 :: (s.take (atL 63 s)).drop 1 := by
  cases s with
  | nil => simp at h
  | cons c r =>
    obtain rfl : c = 47 := by simpa using h
    rw [atL, if_neg (by decide)]
    rfl
/-- A world behind the call's beginning: what it tells lies ready, the tables are as they were. -/
structure RdW (w W : World) : Prop where
  b : Below w.heap.size w W
  h : Has W w.heap.size 32 #[.slice none 0 0, .slice none 0 0]
theorem RdW.step {w W W' : World} (h : RdW w W) (hb : Below W.heap.size W W') : RdW w W' := ⟨h.b.trans (hb.mono h.b.size), h.h.below hb h.h.lt⟩
theorem RdW.grew {w W W' : World} {g : Nat} (h : RdW w W) (hb : Grew g W W') (hg : w.heap.size < g) : RdW w W' := by
  have hlt := h.h.lt
  refine ⟨h.b.trans ⟨hb.os, hb.tape, hb.output, hb.size, fun i hi => hb.block i (by omega) (by omega)⟩, hb.has h.h (by omega)⟩
theorem RdW.tab {w W : World} (h : RdW w W) (hT : TabT w) : TabT W := hT.below h.b
theorem RdW.max {w W : World} (h : RdW w W) (hT : TabT w) : MaxT W := (hT.below h.b).2
/-- A target as a value, in blocks from a block on. -/
def TgF (W : World) (n0 : Nat) (v : Value) (t : TgL) : Prop := ∃ A1 c1 A2 c2, v = .agg #[.slice A1 t.1.length c1, .slice A2 t.2.length c2] ∧ Txs W A1 t.1 ∧ Prs W A2 t.2 ∧ (∀ b o, A1 = some ⟨b, o, none⟩ → n0 ≤ b) ∧ (∀ b o, A2 = some ⟨b, o, none⟩ → n0 ≤ b)
def ReadR (o : Option TgL) (w : World) (e : Ending) (w' : World) : Prop := (match o with
  | some t => ∃ v, e = .returned v ∧ TgF w' w.heap.size v t
  | none => e = gaveE 210) ∧ Below w.heap.size w w'
theorem txs_behind {W : World} {g : Nat} {x : List UInt8} {l : List (List UInt8)} (h : Has W g 9 (strsC (x :: l)).toArray) : Txs W (some ⟨g, 1, none⟩) l := fun _ => ⟨g, 1, rfl, h.lt, fun i y hy => by
  rw [h.cell, List.getElem?_toArray, strsC_get, show 1 + i = i + 1 by omega, List.getElem?_cons_succ, hy]
  rfl⟩
set_option maxRecDepth 100000 in
set_option maxHeartbeats 4000000 in
theorem read_no (s : List UInt8) (w : World) (hT : TabT w) (hs : s.length ≤ 600000) (hb : (decide (s.head? = some 47) && s.all okB) = false) : Calls Tryz.prog 75 #[.string ⟨s.toArray⟩] w (ReadR none w) := by
  have hw1 : RdW w (w.alloc (.cells #[.slice none 0 0, .slice none 0 0] 32)) := ⟨(Below.refl _ _).alloc (Nat.le_refl _) _, Has.new _ _ _⟩
  obtain ⟨w1, hw1e⟩ : ∃ w1, w.alloc (.cells #[.slice none 0 0, .slice none 0 0] 32) = w1 := ⟨_, rfl⟩
  rw [hw1e] at hw1
  have r1 := Lib.hid hw1
  have hT' := Lib.hid hT
  clear hw1 hT
  have h0 := Lib.hid (ofTarget_any w1)
  have h1 := Lib.hid (fun k W hk => mustBeT_any 210 s hs k W hk)
  rw [hb] at h1
  unfold MustR at h1
  simp only [Bool.false_eq_true, if_false] at h1
  go_enter Tryz.func75, Tryz.ntmps75
  go_wp2_with (first
    | (go_at_call 94; (with_reducible refine Calls.mono h0.out ?_); rintro e w2 ⟨rfl, hb2⟩; have r2 := Lib.hid ((r1.out.step hb2).step ((Below.refl w2.heap.size w2).alloc (Nat.le_refl _) (.cells #[.func (.func 130) #[] #[], .func (.func 132) #[] #[]] 138))); have hk2 := Lib.hid (Has.new w2 138 #[.func (.func 130) #[] #[], .func (.func 132) #[] #[]]); clear hb2)
    | (go_at_call 95; (with_reducible refine Calls.mono (h1.out _ _ hk2.out) ?_); rintro e w3 ⟨rfl, hb3⟩; have r3 := Lib.hid (r2.out.step hb3); clear hb3))
  exact ⟨rfl, rfl, r3.out.b⟩
set_option maxRecDepth 100000 in
set_option maxHeartbeats 8000000 in
theorem tqRead_parts (s : List UInt8) (w : World) (hT : TabT w) (hs : s.length ≤ 600000) (hh : s.head? = some 47) (hb : (decide (s.head? = some 47) && s.all okB) = true) (hn : allL partL (betw 47 ((s.take (atL 63 s)).drop 1)) = none) : Calls Tryz.prog 75 #[.string ⟨s.toArray⟩] w (ReadR none w) := by
  have hw1 : RdW w (w.alloc (.cells #[.slice none 0 0, .slice none 0 0] 32)) := ⟨(Below.refl _ _).alloc (Nat.le_refl _) _, Has.new _ _ _⟩
  obtain ⟨w1, hw1e⟩ : ∃ w1, w.alloc (.cells #[.slice none 0 0, .slice none 0 0] 32) = w1 := ⟨_, rfl⟩
  rw [hw1e] at hw1
  have r1 := Lib.hid hw1
  have hT' := Lib.hid hT
  clear hw1 hT
  have h0 := Lib.hid (ofTarget_any w1)
  have h1 := Lib.hid (fun k W hk => mustBeT_any 210 s hs k W hk)
  rw [hb] at h1
  unfold MustR at h1
  simp only [if_true] at h1
  have h2 := Lib.hid (fun W hW => cutT_any 63 s W hs hW)
  have hla : (s.take (atL 63 s)).length ≤ 600000 := by simp; omega
  have hlb : (s.drop (atL 63 s + 1)).length ≤ 600000 := by simp; omega
  have hph := path_head hh
  generalize s.take (atL 63 s) = pa at *
  generalize s.drop (atL 63 s + 1) = qu at *
  generalize (Lib.cut s [63]).2.2 = f at *
  generalize pa.drop 1 = pb at *
  have h3 := Lib.hid (fun W hW => splitT_any 38 qu W hlb hW)
  have h5 := Lib.hid (fun W hW => splitT_any 47 pa W hla hW)
  have hbf : betw 47 pa = [] :: betw 47 pb := by rw [hph, betw_first]
  have hpb : pb.length ≤ 600000 := by rw [hph] at hla; simp at hla; omega
  have hq1 := betw_many 38 qu
  have hp1 := betw_many 47 pb
  have hq2 : ∀ x ∈ betw 38 qu, x.length ≤ 600000 := fun x hx => by have := betw_le hx; omega
  have hp2 : ∀ x ∈ betw 47 pb, x.length ≤ 600000 := fun x hx => by have := betw_le hx; omega
  have hps : ¬ (betw 47 pb).length = 0 := fun e => betw_ne 47 pb (List.length_eq_zero_iff.1 e)
  rw [hbf] at h5
  clear hph hbf hla hb hh
  generalize betw 38 qu = qs at *
  generalize betw 47 pb = ps at *
  have h4 := Lib.hid (fun g W hg => delT_any qs g W hg (by omega))
  have hqs : (qsL qs).length ≤ 900000 := by have : (qsL qs).length ≤ qs.length := by { unfold qsL; exact List.length_filter_le _ _ }; omega
  have hq3 : ∀ x ∈ qsL qs, x.length ≤ 600000 := fun x hx => hq2 x (List.mem_filter.1 hx).1
  have h6 := Lib.hid (fun W (hW : TabT W) A hx => madestring_any 100 partL (enters_of Tryz.func100 (by kernel_rfl) rfl) ps A ps.length W hW hx (by omega) (fun x hx W hW => partT_any x W hW (hp2 x hx)))
  have h7 := Lib.hid (fun W (hW : TabT W) A c hx => madePair_any 102 pairL (enters_of Tryz.func102 (by kernel_rfl) rfl) (qsL qs) A c W hW hx hqs (fun x hx W hW => pairT_any x W hW (hq3 x hx)))
  have hz : (([] : List UInt8) :: ps).length = ps.length + 1 := rfl
  try rw [show (qs.filter fun q => decide (q ≠ [])) = qsL qs from rfl] at hn
  unfold MadestringR at h6
  unfold MadePairR at h7
  unfold SplitR at h3 h5
  unfold DelR at h4
  rw [hn] at h6
  simp only at h6
  clear h7
  go_enter Tryz.func75, Tryz.ntmps75
  go_wp2_with (first
    | (go_at_call 94; (with_reducible refine Calls.mono h0.out ?_); rintro e w2 ⟨rfl, hb2⟩; have r2 := Lib.hid ((r1.out.step hb2).step ((Below.refl w2.heap.size w2).alloc (Nat.le_refl _) (.cells #[.func (.func 130) #[] #[], .func (.func 132) #[] #[]] 138))); have hk2 := Lib.hid (Has.new w2 138 #[.func (.func 130) #[] #[], .func (.func 132) #[] #[]]); clear hb2)
    | (go_at_call 95; (with_reducible refine Calls.mono (h1.out _ _ hk2.out) ?_); rintro e w3 ⟨rfl, hb3⟩; have r3 := Lib.hid (r2.out.step hb3); clear hb3)
    | (go_at_call 64; (with_reducible refine Calls.mono (h2.out _ (r3.out.max hT'.out)) ?_); rintro e w4 ⟨rfl, hb4⟩; have r4 := Lib.hid (r3.out.step hb4); clear hb4)
    | (go_at_call 97; (with_reducible refine Calls.mono (h3.out _ (r4.out.max hT'.out)) ?_); rintro e w5 ⟨rfl, hh5, hb5⟩; have r5 := Lib.hid (r4.out.step hb5); have hh5' := Lib.hid hh5; clear hb5 hh5)
    | (go_at_call 96; (with_reducible refine Calls.mono (h4.out _ _ hh5'.out) ?_); rintro e w6 ⟨rfl, hx6, hb6⟩; have r6 := Lib.hid (r5.out.grew hb6 r4.out.h.lt); have hx6' := Lib.hid hx6; clear hb6 hx6)
    | (go_at_call 97; (with_reducible refine Calls.mono (h5.out _ (r6.out.max hT'.out)) ?_); rintro e w7 ⟨rfl, hh7, hb7⟩; have r7 := Lib.hid (r6.out.step hb7); have hx7 := Lib.hid (hx6'.out.below hb7); have hh7' := Lib.hid (txs_behind hh7); clear hb7 hh7)
    | (go_at_call 99; (with_reducible refine Calls.mono (h6.out _ (r7.out.tab hT'.out) _ hh7'.out) ?_); rintro e w8 ⟨rfl, hb8⟩; have r8 := Lib.hid (r7.out.step hb8); clear hb8))
  exact ⟨rfl, rfl, r8.out.b⟩
set_option maxRecDepth 100000 in
set_option maxHeartbeats 8000000 in
theorem read_pairs (s : List UInt8) (w : World) (hT : TabT w) (hs : s.length ≤ 600000) (hh : s.head? = some 47) (hb : (decide (s.head? = some 47) && s.all okB) = true) (P : List (List UInt8)) (hy : allL partL (betw 47 ((s.take (atL 63 s)).drop 1)) = some P) (hn : allL pairL ((betw 38 (s.drop (atL 63 s + 1))).filter fun q => decide (q ≠ [])) = none) : Calls Tryz.prog 75 #[.string ⟨s.toArray⟩] w (ReadR none w) := by
  have hw1 : RdW w (w.alloc (.cells #[.slice none 0 0, .slice none 0 0] 32)) := ⟨(Below.refl _ _).alloc (Nat.le_refl _) _, Has.new _ _ _⟩
  obtain ⟨w1, hw1e⟩ : ∃ w1, w.alloc (.cells #[.slice none 0 0, .slice none 0 0] 32) = w1 := ⟨_, rfl⟩
  rw [hw1e] at hw1
  have r1 := Lib.hid hw1
  have hT' := Lib.hid hT
  clear hw1 hT
  have h0 := Lib.hid (ofTarget_any w1)
  have h1 := Lib.hid (fun k W hk => mustBeT_any 210 s hs k W hk)
  rw [hb] at h1
  unfold MustR at h1
  simp only [if_true] at h1
  have h2 := Lib.hid (fun W hW => cutT_any 63 s W hs hW)
  have hla : (s.take (atL 63 s)).length ≤ 600000 := by simp; omega
  have hlb : (s.drop (atL 63 s + 1)).length ≤ 600000 := by simp; omega
  have hph := path_head hh
  generalize s.take (atL 63 s) = pa at *
  generalize s.drop (atL 63 s + 1) = qu at *
  generalize (Lib.cut s [63]).2.2 = f at *
  generalize pa.drop 1 = pb at *
  have h3 := Lib.hid (fun W hW => splitT_any 38 qu W hlb hW)
  have h5 := Lib.hid (fun W hW => splitT_any 47 pa W hla hW)
  have hbf : betw 47 pa = [] :: betw 47 pb := by rw [hph, betw_first]
  have hpb : pb.length ≤ 600000 := by rw [hph] at hla; simp at hla; omega
  have hq1 := betw_many 38 qu
  have hp1 := betw_many 47 pb
  have hq2 : ∀ x ∈ betw 38 qu, x.length ≤ 600000 := fun x hx => by have := betw_le hx; omega
  have hp2 : ∀ x ∈ betw 47 pb, x.length ≤ 600000 := fun x hx => by have := betw_le hx; omega
  have hps : ¬ (betw 47 pb).length = 0 := fun e => betw_ne 47 pb (List.length_eq_zero_iff.1 e)
  rw [hbf] at h5
  clear hph hbf hla hb hh
  generalize betw 38 qu = qs at *
  generalize betw 47 pb = ps at *
  have h4 := Lib.hid (fun g W hg => delT_any qs g W hg (by omega))
  have hqs : (qsL qs).length ≤ 900000 := by have : (qsL qs).length ≤ qs.length := by { unfold qsL; exact List.length_filter_le _ _ }; omega
  have hq3 : ∀ x ∈ qsL qs, x.length ≤ 600000 := fun x hx => hq2 x (List.mem_filter.1 hx).1
  have h6 := Lib.hid (fun W (hW : TabT W) A hx => madestring_any 100 partL (enters_of Tryz.func100 (by kernel_rfl) rfl) ps A ps.length W hW hx (by omega) (fun x hx W hW => partT_any x W hW (hp2 x hx)))
  have h7 := Lib.hid (fun W (hW : TabT W) A c hx => madePair_any 102 pairL (enters_of Tryz.func102 (by kernel_rfl) rfl) (qsL qs) A c W hW hx hqs (fun x hx W hW => pairT_any x W hW (hq3 x hx)))
  have hz : (([] : List UInt8) :: ps).length = ps.length + 1 := rfl
  try rw [show (qs.filter fun q => decide (q ≠ [])) = qsL qs from rfl] at hn
  unfold MadestringR at h6
  unfold MadePairR at h7
  unfold SplitR at h3 h5
  unfold DelR at h4
  rw [hy] at h6
  rw [hn] at h7
  simp only at h6 h7
  go_enter Tryz.func75, Tryz.ntmps75
  go_wp2_with (first
    | (go_at_call 94; (with_reducible refine Calls.mono h0.out ?_); rintro e w2 ⟨rfl, hb2⟩; have r2 := Lib.hid ((r1.out.step hb2).step ((Below.refl w2.heap.size w2).alloc (Nat.le_refl _) (.cells #[.func (.func 130) #[] #[], .func (.func 132) #[] #[]] 138))); have hk2 := Lib.hid (Has.new w2 138 #[.func (.func 130) #[] #[], .func (.func 132) #[] #[]]); clear hb2)
    | (go_at_call 95; (with_reducible refine Calls.mono (h1.out _ _ hk2.out) ?_); rintro e w3 ⟨rfl, hb3⟩; have r3 := Lib.hid (r2.out.step hb3); clear hb3)
    | (go_at_call 64; (with_reducible refine Calls.mono (h2.out _ (r3.out.max hT'.out)) ?_); rintro e w4 ⟨rfl, hb4⟩; have r4 := Lib.hid (r3.out.step hb4); clear hb4)
    | (go_at_call 97; (with_reducible refine Calls.mono (h3.out _ (r4.out.max hT'.out)) ?_); rintro e w5 ⟨rfl, hh5, hb5⟩; have r5 := Lib.hid (r4.out.step hb5); have hh5' := Lib.hid hh5; clear hb5 hh5)
    | (go_at_call 96; (with_reducible refine Calls.mono (h4.out _ _ hh5'.out) ?_); rintro e w6 ⟨rfl, hx6, hb6⟩; have r6 := Lib.hid (r5.out.grew hb6 r4.out.h.lt); have hx6' := Lib.hid hx6; clear hb6 hx6)
    | (go_at_call 97; (with_reducible refine Calls.mono (h5.out _ (r6.out.max hT'.out)) ?_); rintro e w7 ⟨rfl, hh7, hb7⟩; have r7 := Lib.hid (r6.out.step hb7); have hx7 := Lib.hid (hx6'.out.below hb7); have hh7' := Lib.hid (txs_behind hh7); clear hb7 hh7)
    | (go_at_call 99; (with_reducible refine Calls.mono (h6.out _ (r7.out.tab hT'.out) _ hh7'.out) ?_); rintro e w8 ⟨⟨v8, rfl, hv8⟩, hb8⟩; obtain ⟨A8, c8, rfl, hx8, ha8⟩ := hv8.txs; have r8 := Lib.hid (r7.out.step hb8); have hq8 := Lib.hid (hx7.out.below hb8); have hx8' := Lib.hid hx8; have ha8' := Lib.hid ha8; clear hb8 hx8 hv8 ha8)
    | (go_at_call 101; (with_reducible refine Calls.mono (h7.out _ (r8.out.tab hT'.out) _ _ hq8.out) ?_); rintro e w9 ⟨rfl, hb9⟩; have r9 := Lib.hid (r8.out.step hb9); clear hb9))
  exact ⟨rfl, rfl, r9.out.b⟩
set_option maxRecDepth 100000 in
set_option maxHeartbeats 8000000 in
theorem read_yes (s : List UInt8) (w : World) (hT : TabT w) (hs : s.length ≤ 600000) (hh : s.head? = some 47) (hb : (decide (s.head? = some 47) && s.all okB) = true) (P : List (List UInt8)) (Q : List PairL) (hy : allL partL (betw 47 ((s.take (atL 63 s)).drop 1)) = some P) (hn : allL pairL ((betw 38 (s.drop (atL 63 s + 1))).filter fun q => decide (q ≠ [])) = some Q) : Calls Tryz.prog 75 #[.string ⟨s.toArray⟩] w (ReadR (some (P, Q)) w) := by
  have hw1 : RdW w (w.alloc (.cells #[.slice none 0 0, .slice none 0 0] 32)) := ⟨(Below.refl _ _).alloc (Nat.le_refl _) _, Has.new _ _ _⟩
  obtain ⟨w1, hw1e⟩ : ∃ w1, w.alloc (.cells #[.slice none 0 0, .slice none 0 0] 32) = w1 := ⟨_, rfl⟩
  rw [hw1e] at hw1
  have r1 := Lib.hid hw1
  have hT' := Lib.hid hT
  clear hw1 hT
  have h0 := Lib.hid (ofTarget_any w1)
  have h1 := Lib.hid (fun k W hk => mustBeT_any 210 s hs k W hk)
  rw [hb] at h1
  unfold MustR at h1
  simp only [if_true] at h1
  have h2 := Lib.hid (fun W hW => cutT_any 63 s W hs hW)
  have hla : (s.take (atL 63 s)).length ≤ 600000 := by simp; omega
  have hlb : (s.drop (atL 63 s + 1)).length ≤ 600000 := by simp; omega
  have hph := path_head hh
  generalize s.take (atL 63 s) = pa at *
  generalize s.drop (atL 63 s + 1) = qu at *
  generalize (Lib.cut s [63]).2.2 = f at *
  generalize pa.drop 1 = pb at *
  have h3 := Lib.hid (fun W hW => splitT_any 38 qu W hlb hW)
  have h5 := Lib.hid (fun W hW => splitT_any 47 pa W hla hW)
  have hbf : betw 47 pa = [] :: betw 47 pb := by rw [hph, betw_first]
  have hpb : pb.length ≤ 600000 := by rw [hph] at hla; simp at hla; omega
  have hq1 := betw_many 38 qu
  have hp1 := betw_many 47 pb
  have hq2 : ∀ x ∈ betw 38 qu, x.length ≤ 600000 := fun x hx => by have := betw_le hx; omega
  have hp2 : ∀ x ∈ betw 47 pb, x.length ≤ 600000 := fun x hx => by have := betw_le hx; omega
  have hps : ¬ (betw 47 pb).length = 0 := fun e => betw_ne 47 pb (List.length_eq_zero_iff.1 e)
  rw [hbf] at h5
  clear hph hbf hla hb hh
  generalize betw 38 qu = qs at *
  generalize betw 47 pb = ps at *
  have h4 := Lib.hid (fun g W hg => delT_any qs g W hg (by omega))
  have hqs : (qsL qs).length ≤ 900000 := by have : (qsL qs).length ≤ qs.length := by { unfold qsL; exact List.length_filter_le _ _ }; omega
  have hq3 : ∀ x ∈ qsL qs, x.length ≤ 600000 := fun x hx => hq2 x (List.mem_filter.1 hx).1
  have h6 := Lib.hid (fun W (hW : TabT W) A hx => madestring_any 100 partL (enters_of Tryz.func100 (by kernel_rfl) rfl) ps A ps.length W hW hx (by omega) (fun x hx W hW => partT_any x W hW (hp2 x hx)))
  have h7 := Lib.hid (fun W (hW : TabT W) A c hx => madePair_any 102 pairL (enters_of Tryz.func102 (by kernel_rfl) rfl) (qsL qs) A c W hW hx hqs (fun x hx W hW => pairT_any x W hW (hq3 x hx)))
  have hz : (([] : List UInt8) :: ps).length = ps.length + 1 := rfl
  try rw [show (qs.filter fun q => decide (q ≠ [])) = qsL qs from rfl] at hn
  unfold MadestringR at h6
  unfold MadePairR at h7
  unfold SplitR at h3 h5
  unfold DelR at h4
  rw [hy] at h6
  rw [hn] at h7
  simp only at h6 h7
  go_enter Tryz.func75, Tryz.ntmps75
  go_wp2_with (first
    | (go_at_call 94; (with_reducible refine Calls.mono h0.out ?_); rintro e w2 ⟨rfl, hb2⟩; have r2 := Lib.hid ((r1.out.step hb2).step ((Below.refl w2.heap.size w2).alloc (Nat.le_refl _) (.cells #[.func (.func 130) #[] #[], .func (.func 132) #[] #[]] 138))); have hk2 := Lib.hid (Has.new w2 138 #[.func (.func 130) #[] #[], .func (.func 132) #[] #[]]); clear hb2)
    | (go_at_call 95; (with_reducible refine Calls.mono (h1.out _ _ hk2.out) ?_); rintro e w3 ⟨rfl, hb3⟩; have r3 := Lib.hid (r2.out.step hb3); clear hb3)
    | (go_at_call 64; (with_reducible refine Calls.mono (h2.out _ (r3.out.max hT'.out)) ?_); rintro e w4 ⟨rfl, hb4⟩; have r4 := Lib.hid (r3.out.step hb4); clear hb4)
    | (go_at_call 97; (with_reducible refine Calls.mono (h3.out _ (r4.out.max hT'.out)) ?_); rintro e w5 ⟨rfl, hh5, hb5⟩; have r5 := Lib.hid (r4.out.step hb5); have hh5' := Lib.hid hh5; clear hb5 hh5)
    | (go_at_call 96; (with_reducible refine Calls.mono (h4.out _ _ hh5'.out) ?_); rintro e w6 ⟨rfl, hx6, hb6⟩; have r6 := Lib.hid (r5.out.grew hb6 r4.out.h.lt); have hx6' := Lib.hid hx6; clear hb6 hx6)
    | (go_at_call 97; (with_reducible refine Calls.mono (h5.out _ (r6.out.max hT'.out)) ?_); rintro e w7 ⟨rfl, hh7, hb7⟩; have r7 := Lib.hid (r6.out.step hb7); have hx7 := Lib.hid (hx6'.out.below hb7); have hh7' := Lib.hid (txs_behind hh7); clear hb7 hh7)
    | (go_at_call 99; (with_reducible refine Calls.mono (h6.out _ (r7.out.tab hT'.out) _ hh7'.out) ?_); rintro e w8 ⟨⟨v8, rfl, hv8⟩, hb8⟩; obtain ⟨A8, c8, rfl, hx8, ha8⟩ := hv8.txs; have r8 := Lib.hid (r7.out.step hb8); have hq8 := Lib.hid (hx7.out.below hb8); have hx8' := Lib.hid hx8; have ha8' := Lib.hid ha8; clear hb8 hx8 hv8 ha8)
    | (go_at_call 101; (with_reducible refine Calls.mono (h7.out _ (r8.out.tab hT'.out) _ _ hq8.out) ?_); rintro e w9 ⟨⟨v9, rfl, hv9⟩, hb9⟩; obtain ⟨A9, c9, rfl, hx9⟩ := hv9.prs; have r9 := Lib.hid (r8.out.step hb9); have hx8b := Lib.hid (hx8'.out.below hb9); have hv9' := Lib.hid hv9; have c0 := r9.out.h.cell 0; have c1 := r9.out.h.cell 1; have f0 := r9.out.h.free 0; have f1 := r9.out.h.free 1; clear hb9 hx9 hv9))
  have y0 : ∀ a b, ((w9.setCell ⟨w.heap.size, 0, none⟩ a).setCell ⟨w.heap.size, 1, none⟩ b).cell? ⟨w.heap.size, 0, none⟩ = some a := fun a b => ((r9.out.h.put 0 a).put 1 b).cell 0
  have y1 : ∀ a b, ((w9.setCell ⟨w.heap.size, 0, none⟩ a).setCell ⟨w.heap.size, 1, none⟩ b).cell? ⟨w.heap.size, 1, none⟩ = some b := fun a b => ((r9.out.h.put 0 a).put 1 b).cell 1
  refine bodyPost_ret (v := .agg #[.slice A8 P.length c8, .slice A9 Q.length c9]) (by simp only [results, Tryz.results75]; simp [go_sem, y0, y1]) rfl ?_
  have hG : Grew w.heap.size w9 ((w9.setCell ⟨w.heap.size, 0, none⟩ (.slice A8 P.length c8)).setCell ⟨w.heap.size, 1, none⟩ (.slice A9 Q.length c9)) := ((Grew.refl w.heap.size w9).setT 0 (.slice A8 P.length c8)).setT 1 (.slice A9 Q.length c9)
  have hz7 := r7.out.h.lt
  have hz8 := r8.out.h.lt
  refine ⟨⟨_, rfl, A8, c8, A9, c9, rfl, hx8b.out.grew hG (fun b o e => by have := ha8'.out b o e; omega), ?_, (fun b o e => by have := ha8'.out b o e; omega), (fun b o e => by subst e; have := (hv9'.out.own b (by simp [Value.ownBlock])).1; omega)⟩, (r9.out.b.setCell (p := ⟨w.heap.size, 0, none⟩) (Nat.le_refl _) _).setCell (p := ⟨w.heap.size, 1, none⟩) (Nat.le_refl _) _⟩
  obtain ⟨A', c', e', hp'⟩ := (hv9'.out.grew hG (by omega)).prs
  injection e' with e1 _ _
  subst e1
  exact hp'
theorem readT_any (s : List UInt8) (w : World) (hT : TabT w) (hs : s.length ≤ 600000) : Calls Tryz.prog 75 #[.string ⟨s.toArray⟩] w (ReadR (parseTg s) w) := by
  unfold parseTg
  by_cases h : s.head? = some 47 ∧ s.all okB = true
  · rw [if_pos h]
    have hb : (decide (s.head? = some 47) && s.all okB) = true := by rw [Bool.and_eq_true, decide_eq_true_eq]; exact h
    cases hy : allL partL (betw 47 ((s.take (atL 63 s)).drop 1)) with
    | none => exact tqRead_parts s w hT hs h.1 hb hy
    | some P =>
      cases hn : allL pairL ((betw 38 (s.drop (atL 63 s + 1))).filter fun q => decide (q ≠ [])) with
      | none => exact read_pairs s w hT hs h.1 hb P hy hn
      | some Q => exact read_yes s w hT hs h.1 hb P Q hy hn
  · rw [if_neg h]
    refine read_no s w hT hs ?_
    rw [Bool.eq_false_iff]
    intro e
    rw [Bool.and_eq_true, decide_eq_true_eq] at e
    exact h e
end Go.Proofs.YtbmemkbfignlaaaGreatDoor
