import Derived.Test.YthdmmlaahjgijaaDoorLnV
import Derived.Test.YthdmmlaahjgijaaDoorLnX
import Derived.Test.YthdmmlaahjgijaaDoorLnR
import Derived.Test.YthdmmlaahjgijaaDoorLnJ
namespace Go.Proofs.YthdmmlaahjgijaaDoor
open Go.RowKit Go.Shelf
attribute [local go_sem] Oper.semAt_some
attribute [local go_sem] wide_fn wide_depth wide_round

/-! ## The document's Of; Each -/
theorem stepR_init (most : Nat) (x : List UInt8) : (stepR most initR x).1 = (stepC most init0 x).1 := by
  have h := stepR_stepC most initR x
  rw [absC_init] at h
  rw [h]
set_option maxRecDepth 100000 in
theorem refOfL_yes (most : Nat) (x : List UInt8) (B : Option Addr) (n c : Nat) (w : World) (h1 : 1 ≤ most) (h2 : most ≤ 65536) (hB : Rd w (· < w.heap.size) B x) (hn : n = x.length) (hl : n ≤ 1000) :
    Calls Tryd.prog 31 #[.int .i64 (most : Int), .slice B n c] w (OfN most x w) := by
  have hrn := Lib.hid (fun W => refNewL_yes most W h1 h2)
  have hW : Hid (∀ (W : World), Below w.heap.size w W → Calls Tryd.prog 40 #[.agg #[.slice none 0 0, .int .i64 (most : Int), .string ⟨#[]⟩, .bool false, .bool false], .slice B n c] W (RefWL most initR x W)) := Lib.hid (fun (W : World) (hb : Below w.heap.size w W) => refWriteL_any none B 0 0 n c most initR x W (fun h => absurd h (by simp [initR])) ((hB.kept (Kept.below hb (fun b h => h))).mono (fun b h => Nat.lt_of_lt_of_le h hb.size)) rfl hn (by omega) hl h2 (by simp [initR]))
  clear hB hn
  go_enter Tryd.func31, Tryd.ntmps31
  go_wp2_with (first
    | (go_at_call 36; (with_reducible refine Calls.mono (hrn.out _) ?_); rintro e w2 ⟨rfl, hb2⟩; have hb2' := Lib.hid (hb2.alloc hb2.size (.cells #[.slice none 0 0, .int .i64 (most : Int), .string ⟨#[]⟩, .bool false, .bool false] 76)); have hk := Has.new w2 76 #[.slice none 0 0, .int .i64 (most : Int), .string ⟨#[]⟩, .bool false, .bool false]; have y0 := hk.cell 0; have y1 := hk.cell 1; have y2 := hk.cell 2; have y3 := hk.cell 3; have y4 := hk.cell 4; clear hb2 hk)
    | (go_at_call 40; (with_reducible refine Calls.mono (hW.out _ hb2'.out) ?_); rintro e w4 ⟨A4, c4, v4, rfl, _, hL4, hb4⟩; obtain ⟨A5, c5, rfl, _⟩ := hL4.shape; have hL4' := Lib.hid hL4; have hb4' := Lib.hid hb4; obtain ⟨l5, hl5⟩ : ∃ l5, (stepR most initR x).1.length = l5 := ⟨_, rfl⟩; rw [hl5] at hL4' ⊢; clear hL4 hb4 hl5))
  go_ret2
  refine ⟨_, rfl, ?_, ?_⟩
  · have h := hL4'.out
    rw [stepR_init] at h
    exact (h.below ((Below.refl _ _).alloc (Nat.le_refl _) _)).mono hb2'.out.size
  · exact (hb2'.out.trans (hb4'.out.mono hb2'.out.size)).alloc (by have := hb2'.out.size; have := hb4'.out.size; omega) _
set_option maxRecDepth 100000 in
theorem refOfL_no (z : Int) (B : Option Addr) (n c : Nat) (w : World) (h : z < 1 ∨ 65536 < z) :
    Calls Tryd.prog 31 #[.int .i64 z, .slice B n c] w fun e w' => e = .returned (.tuple #[.slice none 0 0, .int .i64 2]) ∧ Below w.heap.size w w' := by
  have hrn := Lib.hid (fun W => refNewL_no z W h)
  clear h
  go_enter Tryd.func31, Tryd.ntmps31
  go_wp2_with (go_at_call 36; (with_reducible refine Calls.mono (hrn.out _) ?_); rintro e w2 ⟨rfl, hb2⟩; have hb2' := Lib.hid hb2; clear hb2)
  go_ret2
  exact ⟨rfl, hb2'.out.alloc hb2'.out.size _⟩
def EachOf (z : Int) (x : List UInt8) (w : World) (e : Ending) (w' : World) : Prop :=
  ∃ (p : Nat) (PA : Option Addr) (pc : Nat), e = .returned (.func (.func 57) #[] #[.pointer (some ⟨w.heap.size, 0, none⟩), .pointer (some ⟨p, 0, none⟩)]) ∧ Below w.heap.size w w' ∧ Has w' w.heap.size 3 #[.int .i64 z] ∧ w.heap.size < p ∧ Has w' p 39 #[.slice PA (pcs x).length pc] ∧
    (∀ (k : Nat) (y : List UInt8), (pcs x)[k]? = some y → ∃ (g : Nat) (cs : Array Value) (A : Option Addr) (c : Nat), PA = some ⟨g, 0, none⟩ ∧ w.heap.size < g ∧ Has w' g 22 cs ∧ cs[k]? = some (Value.slice A y.length c) ∧ Rd w' (fun q => w.heap.size < q ∧ q < w'.heap.size) A y)
set_option maxRecDepth 100000 in
theorem eachL_any (z : Int) (x : List UInt8) (B : Option Addr) (n c : Nat) (w : World) (hB : Rd w (· < w.heap.size) B x) (hn : n = x.length) (hl : n ≤ 4096) :
    Calls Tryd.prog 32 #[.int .i64 z, .slice B n c] w (EachOf z x w) := by
  have hb1 : Below w.heap.size w (w.alloc (.cells #[.int .i64 z] 3)) := (Below.refl _ _).alloc (Nat.le_refl _) _
  have kM := Lib.hid (Has.new w 3 #[.int .i64 z])
  have hcl := cloneB_any B x n c (w.alloc (.cells #[.int .i64 z] 3)) hn ((hB.kept (Kept.below hb1 (fun b h => h))).mono (fun b h => by have h : b < w.heap.size := h; simp; omega)) (by omega)
  have hcl' := Lib.hid hcl
  have hb1' := Lib.hid hb1
  have hn' := Lib.hid hn
  clear hB hn hb1 hcl
  go_enter Tryd.func32, Tryd.ntmps32
  go_upto_region 2 with (first
    | (go_at_call 56; (with_reducible refine Calls.mono hcl'.out ?_); rintro e w2 ⟨v2, rfl, hv2, hb2⟩; obtain ⟨A2, c2, rfl, hc2, hc2m, hr2⟩ := hv2.held; rw [← hn'.out] at hc2 ⊢; have hr2' := Lib.hid hr2; have hb2' := Lib.hid hb2; have hct := Lib.hid (cut_any A2 x n c2 w2 hn'.out hc2 hc2m hl (fun h => by obtain ⟨ad, h1, _⟩ := hr2 (by have := hn'.out; omega); exact ⟨ad, h1⟩)); clear hv2 hb2 hr2)
    | (go_at_call 55; (with_reducible refine Calls.mono hct.out ?_); rintro e w3 ⟨PA, pc, rfl, hb3, hp3⟩; have hb3' := Lib.hid hb3; have hp3' := Lib.hid hp3; clear hb3 hp3))
  have z2 := hb2'.out.size
  rw [World.size_alloc] at z2
  have z3 := hb3'.out.size
  have hw2 : Below w.heap.size w w2 := hb1'.out.trans (hb2'.out.mono (by simp))
  have hw3 : Below w.heap.size w w3 := hw2.trans (hb3'.out.mono (by omega))
  have hal : Below w3.heap.size w3 (w3.alloc (.cells #[.slice PA (pcs x).length pc] 39)) := (Below.refl _ _).alloc (Nat.le_refl _) _
  have kM3 := ((kM.out.below hb2'.out kM.out.lt).below hb3'.out (by omega)).below hal (by omega)
  have hw4 := hw3.trans (hal.mono (by omega))
  have kP := Has.new w3 39 #[.slice PA (pcs x).length pc]
  have hfin : Hid (EachOf z x w (.returned (.func (.func 57) #[] #[.pointer (some ⟨w.heap.size, 0, none⟩), .pointer (some ⟨w3.heap.size, 0, none⟩)])) (w3.alloc (.cells #[.slice PA (pcs x).length pc] 39))) := Lib.hid (by
    refine ⟨w3.heap.size, PA, pc, rfl, hw4, kM3, by omega, kP, fun k y hy => ?_⟩
    obtain ⟨rfl, g, cs, c', hPA, hg, hh, rfl, hc0⟩ := hp3'.out k y hy
    refine ⟨g, cs, A2, c', hPA, by omega, hh.below hal hh.lt, hc0, ?_⟩
    refine ((hr2'.out.kept (Kept.below hb3'.out (fun b hb => hb.2))).kept (Kept.below hal (fun b hb => by have := hb.2; omega))).mono (fun b hb => ?_)
    have h1 := hb.1
    have h2 := hb.2
    rw [World.size_alloc] at h1
    exact ⟨by omega, by rw [World.size_alloc]; omega⟩)
  clear kM3 hw4 kP hw3 hw2 hal z2 z3
  go_wp2
  go_ret
  exact hfin.out
/-! ## The iterator over lines -/
def linesOf (z : Int) (x : List UInt8) : List (List UInt8 × Bool) := if 1 ≤ z ∧ z ≤ 65536 then (stepC z.toNat init0 x).1 else []
set_option maxRecDepth 100000 in
set_option maxHeartbeats 4000000 in
theorem each1_stops (z : Int) (x : List UInt8) (bM bP n0 : Nat) (Wr : Nat → Prop) (PA : Option Addr) (pc : Nat) (w : World) (hn0 : n0 ≤ w.heap.size) (hWr : ∀ k, Wr k → k < n0) (hMW : ¬ Wr bM) (hPW : ¬ Wr bP) (hxl : x.length ≤ 4096)
    (hT : Tab w) (hTn : 0 < n0) (hTW : ¬ Wr 0) (hE : Ends w) (hEn : 1 < n0) (hEW : ¬ Wr 1)
    (hM : Has w bM 3 #[.int .i64 z]) (hP : Has w bP 39 #[.slice PA (pcs x).length pc])
    (hPc : ∀ (k : Nat) (y : List UInt8), (pcs x)[k]? = some y → ∃ (g : Nat) (cs : Array Value) (A : Option Addr) (c : Nat), PA = some ⟨g, 0, none⟩ ∧ ¬ Wr g ∧ Has w g 22 cs ∧ cs[k]? = some (Value.slice A y.length c) ∧ Rd w (fun q => q < n0 ∧ ¬ Wr q) A y) :
    SeqTurn 2 Tryd.prog 57 #[.pointer (some ⟨bM, 0, none⟩), .pointer (some ⟨bP, 0, none⟩)] encLn (KeepL n0 Wr) (fun _ => False) (fun ys => ys = numL 0 (linesOf z x)) (fun pre => ∃ a b, linesOf z x = a ++ b ∧ pre = numL 0 a) (fun _ => True) (linesOf z x).length w := by
  intro l J Jx W hW hJ hJx hY h0
  have hWs := hW.size
  have hM1 := hM.below hW hM.lt
  have hP1 := hP.below hW hP.lt
  have hMl := hM1.lt
  have hPl := hP1.lt
  have kY := Lib.hid (Has.new W 114 #[.func (.yield l) #[] #[]])
  have hbY : Below W.heap.size W (W.alloc (.cells #[.func (.yield l) #[] #[]] 114)) := (Below.refl _ _).alloc (Nat.le_refl _) _
  have hM2 := hM1.below hbY hMl
  have hP2 := hP1.below hbY hPl
  have c0 := hM2.cell 0
  have hM2' := Lib.hid hM2
  have hP2' := Lib.hid hP2
  have hbY' := Lib.hid hbY
  have hW' := Lib.hid hW
  have hJ' := Lib.hid hJ
  have hJx' := Lib.hid hJx
  have hY' := Lib.hid hY
  have h0' := Lib.hid h0
  have hT' := Lib.hid hT
  have hE' := Lib.hid hE
  have hPc' := Lib.hid hPc
  have hWr' := Lib.hid hWr
  have hMW' := Lib.hid hMW
  have hPW' := Lib.hid hPW
  have hTW' := Lib.hid hTW
  have hEW' := Lib.hid hEW
  have hj1 := Lib.hid (hJ [] _ _ h0 (Turn.alloc W.heap.size (fun _ => False) W (.cells #[.func (.yield l) #[] #[]] 114)))
  clear hW hJ hJx hY h0 hT hE hPc hWr hM hP hM1 hP1 hM2 hP2 hbY hMW hPW hTW hEW
  refine callsIn_of_wp_marks Tryd.func57 rfl trivial ?_ rfl
  refine wpIn_wide.2 ?_
  simp only [Tryd.ntmps57, List.size_toArray, List.length_cons, List.length_nil, Nat.reduceAdd, Nat.reduceSub, Array.replicate_succ, Array.replicate_zero, List.push_toArray, List.append_toArray, List.nil_append, List.cons_append]
  by_cases hz : 1 ≤ z ∧ z ≤ 65536
  · obtain ⟨most, rfl⟩ : ∃ most : Nat, z = (most : Int) := ⟨z.toNat, by omega⟩
    have h1 : 1 ≤ most := by omega
    have h2 : most ≤ 65536 := by omega
    have hls : linesOf (most : Int) x = (stepC most init0 x).1 := by unfold linesOf; rw [if_pos hz]; rfl
    have hls' := Lib.hid hls
    rw [hls]
    have hnew := Lib.hid (fun W => newL_yes n0 most W h1 h2)
    obtain ⟨m, hme⟩ : ∃ m, (pcs x).length = m := ⟨_, rfl⟩
    have hme' := Lib.hid hme
    rw [hme] at hP2'
    have hcn := stepC_count (most := most) init0 x
    have hz2 : init0.ws.length = 0 := rfl
    have hcnt : (stepC most init0 x).1.length ≤ 1099511627776 := by omega
    have hcnt' := Lib.hid hcnt
    clear hls hz hme hcn hz2 hcnt
    go_wp2
    go_step3
    go_wp2_with (go_at_call 35; (with_reducible refine Calls.mono (hnew.out _) ?_); rintro e w3 ⟨sp, rfl, dp, hsp, hdp, hs3, hb3⟩; have hs3' := Lib.hid hs3; have hb3' := Lib.hid hb3; have hP3 := hP2'.out.below hb3 hP2'.out.lt; have p0 := hP3.cell 0; have hP3' := Lib.hid hP3; clear hs3 hb3 hP3)
    rw [World.size_alloc] at hsp hdp
    have z3 := hb3'.out.size
    rw [World.size_alloc] at z3
    go_step3
    go_wp2_with fail
    refine (come_any _ _ _ _ _).mono ?_
    rintro e w5 ⟨rfl, rfl⟩
    have hb35 : Below w3.heap.size w3 ((w3.alloc (.cells #[.pointer (some ⟨sp, 0, none⟩)] 72)).alloc (.cells #[.slice PA m pc] 39)) := ((Below.refl _ _).alloc (Nat.le_refl _) _).alloc (by simp) _
    have hbS := (Has.new w3 72 #[.pointer (some ⟨sp, 0, none⟩)]).alloc (.cells #[.slice PA m pc] 39)
    have hbP := Has.new (w3.alloc (.cells #[.pointer (some ⟨sp, 0, none⟩)] 72)) 39 #[.slice PA m pc]
    simp only [World.size_alloc] at hbP
    have hb35' := Lib.hid hb35
    have hbS' := Lib.hid hbS
    have hbP' := Lib.hid hbP
    clear hb35 hbS hbP
    go_wp2
    obtain ⟨w5, hw5⟩ : ∃ w5, (w3.alloc (.cells #[.pointer (some ⟨sp, 0, none⟩)] 72)).alloc (.cells #[.slice PA m pc] 39) = w5 := ⟨_, rfl⟩
    have z5 : w5.heap.size = w3.heap.size + 1 + 1 := by rw [← hw5]; simp
    have hb35 := hb35'.out
    have hbS := hbS'.out
    have hbP := hbP'.out
    rw [hw5] at hb35 hbS hbP ⊢
    clear hw5 hb35' hbS' hbP'
    have hb15 : Below W.heap.size W w5 := hbY'.out.trans ((hb3'.out.trans (hb35.mono (by simp; omega))).mono (by simp))
    have kY5 := (kY.out.below hb3'.out kY.out.lt).below hb35 (by omega)
    have hj5 := Lib.hid (hJ'.out _ _ _ h0'.out (Turn.of_below hb15))
    have hs5 := hs3'.out.below hb35
    have hw5b : Below w.heap.size w w5 := hW'.out.trans (hb15.mono hWs)
    have hnC : ∀ k, k < n0 → ¬ ChL sp dp none k := fun k hk h => by
      rcases h with h | h | h
      · omega
      · omega
      · cases h
    have hseq := come1_stops 1 (by omega) (w3.heap.size + 1) w3.heap.size sp dp most n0 n0 Wr none PA pc (pcs x) init0 w5 (by omega) hWr'.out (fun h => by have := hWr'.out _ h; omega) (fun h => by have := hWr'.out _ h; omega) (fun k h => by cases h) (fun h => by have := hWr'.out _ h; omega) (fun h => by have := hWr'.out _ h; omega) h1 h2 (by omega)
      (fun y hy => by
        unfold pcs at hy
        split at hy
        · simp at hy
        · obtain rfl := List.mem_singleton.1 hy; omega) (by unfold pcs; split <;> simp) (by rw [runC_pcs (init0_ok most)]; exact hcnt'.out) (init0_ok most)
      (hT'.out.below hw5b) hTn hTW'.out (hnC _ hTn) (hE'.out.below hw5b) hEn hEW'.out (hnC _ hEn) hEn (by rw [hme'.out]; exact hbP) hbS
      (fun k y hy => by
        obtain ⟨g, cs, A, c, hPA, hgw, hg, hc, hr⟩ := hPc'.out k y hy
        exact ⟨g, cs, A, c, hPA, hg.below hw5b hg.lt, hgw, hc, (hr.kept (Kept.below hw5b (fun q hq => by have := hq.1; omega))).mono (fun q hq => ⟨hq.1, hq.2, hnC q hq.1⟩)⟩) hs5
    rw [runC_pcs (init0_ok most)] at hseq
    have hseq' := Lib.hid hseq
    have kY5' := Lib.hid kY5
    have hzW5 : W.heap.size < w5.heap.size := by omega
    have hsp1 : W.heap.size ≤ sp := by omega
    have hdp1 : W.heap.size ≤ dp := by omega
    have hdn : ∀ {X Y : World}, Turn w5.heap.size (ChL sp dp none) X Y → Turn W.heap.size (fun _ => False) X Y := fun h => (h.down (by omega)).mono (fun k hk hc => by
      rcases hc with hc | hc | hc
      · omega
      · omega
      · cases hc)
    clear hseq kY5 hb15 hs5 hw5b hnC hb35 hbS hbP p0 c0
    refine (wpIn_wide (n := 2)).1 ?_
    refine wpIn_range_turnH 0 (gf := 69) (lb := #[.pointer (some ⟨w3.heap.size + 1, 0, none⟩), .pointer (some ⟨w3.heap.size, 0, none⟩)]) rfl (enters_of Tryd.func69 (by kernel_rfl) rfl)
      hseq'.out (fun h k => h.trans k) (fun W l o o' h0 h1 h2 _ => KeepL.putObj W l o o' (by omega) h1 h2) (Below.refl _ _) (fun _ => rfl)
      (fun pre V => J pre V ∧ Has V W.heap.size 114 #[.func (.yield l) #[] #[]]) (fun c pre V => c = .exit 0 ∧ Jx pre V)
      (fun V => (∃ xs, xs = numL 0 (stepC most init0 x).1 ∧ J xs V) ∨ (∃ pre, (∃ a b, (stepC most init0 x).1 = a ++ b ∧ pre = numL 0 a) ∧ Jx pre V))
      (fun pre X Y hs ht => ⟨hJ'.out _ _ _ hs.1 (hdn ht), ht.has hs.2 (by decide)⟩)
      (fun c pre X Y hs ht => ⟨hs.1, hJx'.out _ _ _ hs.2 (hdn ht)⟩) (fun V l o o' h h1 h2 => h.putObj o' h1 h2) ⟨hj5.out, kY5'.out⟩
      (fun xs V h1 h2 _ => .inl ⟨xs, h1, h2.1⟩) (fun c pre V h1 h2 => ⟨h2.1, .inr ⟨pre, h1, h2.2⟩⟩)
      (AxB ?F 70 (fun y : Nat × List UInt8 × Bool => #[.string ⟨y.2.1.toArray⟩, .bool y.2.2])) (fun y a' V l o o' h h1 h2 => by
        obtain ⟨k, h3, h4⟩ := h
        exact ⟨k, h3, h4.putNon o' h1 h2⟩) ?assign ?body (fun _ _ h => h) ?rest
    case assign =>
      intro l1 pre y V K hI hK
      have hK' := Lib.hid hK
      have hI' := Lib.hid hI
      clear hK hI
      dsimp only [encLn]
      gi_wp2
      obtain ⟨k, hk⟩ : ∃ k, V.heap.size = k := ⟨_, rfl⟩
      have hnew := Has.new V 70 #[.string ⟨y.2.1.toArray⟩, .bool y.2.2]
      have hb : Below V.heap.size V (V.alloc (.cells #[.string ⟨y.2.1.toArray⟩, .bool y.2.2] 70)) := (Below.refl _ _).alloc (Nat.le_refl _) _
      have ht : Turn W.heap.size (fun _ => False) V (V.alloc (.cells #[.string ⟨y.2.1.toArray⟩, .bool y.2.2] 70)) := Turn.of_below hb
      rw [hk] at hnew ⊢
      refine hK'.out _ _ ((KeepsOthers.alloc _ _).from _) (.below hb) ⟨hJ'.out _ _ _ hI'.out.1 ht, hI'.out.2.alloc _⟩ ⟨k, ?_, hnew⟩
      rfl
    case body =>
      rintro l1 pre y a' V hl ⟨r, hr⟩ ⟨hi, hz⟩ ⟨k, rfl, hk⟩ hlen
      have z0 := hz.cell 0
      have hz' := Lib.hid hz
      obtain ⟨fn, tmps, assign, body, hy, hR⟩ := hY'.out pre y V hi (by rw [hls'.out]; exact hlen)
      have hR' := Lib.hid ((round_any (m' := 1 - 1 - 1) (l' := l1) hR).mono (R' := fun e V' => ∃ b, e = .returned (.bool b) ∧ KeepsFrom W.heap.size V V' ∧ YPost J Jx (KeepL n0 Wr) (pre ++ [y]) V b V') (by
        rintro e V' ⟨h1, (⟨rfl, h2, h3⟩ | ⟨rfl, h2⟩)⟩
        · exact ⟨true, rfl, h1, h2, h3⟩
        · exact ⟨false, rfl, h1, h2⟩))
      obtain ⟨yn, yt, yb⟩ := y
      have hy' : (Instr.yield l #[.int .i64 (yn : Int), .agg #[.string ⟨yt.toArray⟩, .bool yb]]).run Tryd.prog V = .ok (Next.round l fn tmps assign body) V := hy
      have d0 : V.cell? ⟨k, 0, none⟩ = some (.string ⟨yt.toArray⟩) := hk.cell 0
      have d1 : V.cell? ⟨k, 1, none⟩ = some (.bool yb) := hk.cell 1
      clear hy hR hz hi hk hr hlen
      gi_wp2
      refine hR'.out.mono ?_
      rintro e V3 ⟨b, rfl, hkf, hP⟩
      have hkf' := Lib.hid hkf
      clear hkf
      cases b
      · have hP' := Lib.hid (show Jx (pre ++ [(yn, yt, yb)]) V3 from hP)
        clear hP
        gi_wp2
        exact ⟨KeepsFrom.up hkf'.out (by omega), rfl, hP'.out⟩
      · have hP' := Lib.hid (show J (pre ++ [(yn, yt, yb)]) V3 ∧ KeepL n0 Wr V V3 from hP)
        clear hP
        gi_wp2
        exact ⟨KeepsFrom.up hkf'.out (by omega), hP'.out.2, hP'.out.1, hP'.out.2.has (by decide) (fun h => by have := hWr'.out _ h; omega) hz'.out⟩
    case rest =>
      rintro D V hD hM hk
      have hM' := Lib.hid hM
      have hk' := Lib.hid hk
      have hDW : W.heap.size ≤ D := by omega
      clear hM hk
      go_wp2
      refine ⟨by simp, .inl ⟨_, _, rfl, run_takeDeferred hk'.out, ?_⟩⟩
      refine ⟨_, results_none rfl _ _ _, ⟨_, rfl⟩, ?_⟩
      rcases hM'.out with ⟨xs, h1, h2⟩ | ⟨pre, h1, h2⟩
      · exact .inl ⟨xs, h1, hJ'.out _ _ _ h2 (Turn.putObj _ hDW hk'.out rfl), trivial⟩
      · exact .inr ⟨pre, h1, hJx'.out _ _ _ h2 (Turn.putObj _ hDW hk'.out rfl)⟩
  · have hno := Lib.hid (fun W => newL_no z W (by omega))
    have hl0 : linesOf z x = [] := by unfold linesOf; rw [if_neg hz]
    have hl0' := Lib.hid hl0
    clear hl0 hz
    go_wp2
    go_step3
    go_wp2_with (go_at_call 35; (with_reducible refine Calls.mono (hno.out _) ?_); rintro e w2 ⟨rfl, rfl⟩)
    rw [Exit.noGoto_ret]
    show LeavesInM _ _ _ _ _ _ _ _ _
    refine ⟨_, results_none rfl _ _ _, ⟨_, rfl⟩, .inl ⟨_, ?_, hj1.out, trivial⟩⟩
    rw [hl0'.out]; rfl
end Go.Proofs.YthdmmlaahjgijaaDoor
