import Derived.Test.YtdkmajmmhngdpaaDoorFdX
namespace Go.Proofs.YtdkmajmmhngdpaaDoor
open Go.RowKit Go.Shelf
attribute [local go_sem] Oper.semAt_some
attribute [local go_sem] wide_fn wide_depth wide_round

/-! ## Each -/
def ArgS (w : World) (A : Option Addr) (ls : List (List UInt8)) : Prop := 0 < ls.length → ∃ b off, A = some ⟨b, off, none⟩ ∧ b < w.heap.size ∧ ∀ (j : Nat) (y : List UInt8), ls[j]? = some y → w.cell? ⟨b, off + j, none⟩ = some (.string ⟨y.toArray⟩)
theorem cloneS2_any (A : Option Addr) (n c : Nat) (ls : List (List UInt8)) (w : World) (hn : n = ls.length) (hl : n ≤ 20) (hA : ArgS w A ls) :
    Calls Tryd.prog 63 #[.slice A n c] w fun e w' => ∃ (g : Nat) (A' : Option Addr) (c' : Nat) (cur : Array Value), e = .returned (.slice A' n c') ∧ (0 < n → A' = some ⟨g, 0, none⟩ ∧ Has w' g 9 cur) ∧ (∀ (k : Nat) (y : List UInt8), ls[k]? = some y → cur[k]? = some (Value.string ⟨y.toArray⟩)) ∧ w.heap.size ≤ g ∧ g ≤ w'.heap.size ∧ Below w.heap.size w w' := by
  cases hls : ls with
  | nil =>
    subst hls
    obtain rfl : n = 0 := hn
    cases A with
    | none =>
      refine (Tryd.slices_Clone_string_nil 0 c w).mono ?_
      rintro e w' ⟨rfl, rfl⟩
      exact ⟨w'.heap.size, none, 0, #[], rfl, fun h => by omega, fun k y h => by simp at h, Nat.le_refl _, Nat.le_refl _, Below.refl _ _⟩
    | some a =>
      refine (Tryd.slices_Clone_string_zero a c w).mono ?_
      rintro e w' ⟨v, rfl, hv, _, hb⟩
      rcases hv.2 with ⟨rfl, _⟩ | ⟨g, cap, cur, rfl, hg, _⟩
      · exact ⟨w.heap.size, none, 0, #[], rfl, fun h => by omega, fun k y h => by simp at h, Nat.le_refl _, hb.size, hb⟩
      · exact ⟨w.heap.size, _, _, #[], rfl, fun h => by omega, fun k y h => by simp at h, Nat.le_refl _, hb.size, hb⟩
  | cons y0 r =>
    have hpos : 0 < ls.length := by rw [hls]; simp
    obtain ⟨b, off, rfl, hb0, hc⟩ := hA hpos
    rw [← hls]
    have hlen : (ls.map fun y => (⟨y.toArray⟩ : ByteArray)).length = n := by simp [hn]
    refine (Tryd.slices_Clone_string b off n c (ls.map fun y => ⟨y.toArray⟩) w (by omega) (by omega) (fun j hj => ?_)).mono ?_
    · rw [hlen, hn] at hj
      rw [hc j (ls[j]) (List.getElem?_eq_getElem hj)]
      simp [List.getD_eq_getElem?_getD, List.getElem?_map, List.getElem?_eq_getElem hj]
    · rintro e w' ⟨v, rfl, hv, _, hb⟩
      rw [List.take_of_length_le (by omega)] at hv
      rcases hv.2 with ⟨_, h0⟩ | ⟨g, cap, cur, rfl, hg, hgc, _, _, _, htk⟩
      · omega
      · refine ⟨g, _, cap, cur, rfl, fun _ => ⟨rfl, hgc⟩, fun k y hk => ?_, hg, Nat.le_of_lt (Array.getElem?_eq_some_iff.1 hgc).1, hb⟩
        have hkn : k < n := by have := (List.getElem?_eq_some_iff.1 hk).1; omega
        have := congrArg (fun l => l[k]?) htk
        simp only [Nat.mul_one, List.getElem?_take, if_pos hkn, List.getElem?_map, hk, Option.map_some, Array.getElem?_toList] at this
        exact this
theorem eachF_any (A : Option Addr) (n c : Nat) (ls : List (List UInt8)) (w : World) (hn : n = ls.length) (hl : n ≤ 20) (hA : ArgS w A ls) (hls : ∀ y ∈ ls, y.length ≤ 1000) (hN : NamesT w) (hM : MaxT w) (hT : Tab w) :
    Calls Tryd.prog 36 #[.slice A n c] w fun e w' => ∃ (bP g : Nat) (A' : Option Addr) (c' : Nat) (cur : Array Value), e = .returned (.func (.func 64) #[] #[.pointer (some ⟨bP, 0, none⟩)]) ∧ EnvS w' bP g A' ls n c' cur ∧ w.heap.size ≤ bP ∧ w.heap.size ≤ g ∧ bP < w'.heap.size ∧ g < w'.heap.size ∧ Below w.heap.size w w' := by
  have hcl := Lib.hid (cloneS2_any A n c ls w hn hl hA)
  have hN' := Lib.hid hN
  have hM' := Lib.hid hM
  have hT' := Lib.hid hT
  have hls' := Lib.hid hls
  have hn' := Lib.hid hn
  clear hN hM hT hls hA hn
  go_enter Tryd.func36, Tryd.ntmps36
  go_wp2_with (go_at_call 63; (with_reducible refine Calls.mono hcl.out ?_); rintro e w2 ⟨g, A', c', cur, rfl, hrow, hat, hg, hg2, hb2⟩; have hrow' := Lib.hid hrow; have hat' := Lib.hid hat; have hb2' := Lib.hid hb2; clear hrow hat hb2)
  go_ret
  have hb3 : Below w.heap.size w (w2.alloc (.cells #[.slice A' n c'] 47)) := hb2'.out.alloc hb2'.out.size _
  refine ⟨w2.heap.size, g, A', c', cur, rfl, ⟨hn'.out, Has.new _ _ _, fun h => ⟨(hrow'.out h).1, (hrow'.out h).2.alloc _⟩, fun k y hk => ⟨hat'.out k y hk, hls'.out y (List.mem_of_getElem? hk)⟩, hN'.out.below hb3, hM'.out.below hb3, hT'.out.below hb3⟩, hb2'.out.size, hg, by simp, by simp; omega, hb3⟩
/-- What counts of some lines. -/
def cnt (ls : List (List UInt8)) (k : Nat) : Bool := countsF (fieldF (ls.getD k []))
set_option maxRecDepth 100000 in
set_option maxHeartbeats 4000000 in
theorem eachF_stops (ls : List (List UInt8)) (bP g N c : Nat) (A : Option Addr) (cur : Array Value) (hN : N ≤ 1000) (Wr : Nat → Prop) (hWr : NotW Wr bP g) (w : World) (hWw : ∀ k, Wr k → k < w.heap.size) (hE : EnvS w bP g A ls N c cur) :
    SeqOwn 2 Tryd.prog 64 #[.pointer (some ⟨bP, 0, none⟩)] (encK ls) (KeepW Wr) (fun ys => ys = (List.range N).filter (cnt ls)) (fun pre => ∃ k, k < N ∧ pre = (List.range (k + 1)).filter (cnt ls)) N w := by
  intro l J Jx W hW hJ hJx hY h0
  have hEW := hE.below hW
  have hbl := hEW.box.lt
  have c0 := hEW.box.cell 0
  have hEW' := Lib.hid hEW
  have hW' := Lib.hid hW
  have hY' := Lib.hid hY
  have hJ' := Lib.hid hJ
  have hJx' := Lib.hid hJx
  have h0' := Lib.hid h0
  clear hE hEW hW hY hJ hJx h0
  refine callsIn_of_wp_marks Tryd.func64 rfl trivial ?_ rfl
  refine wpIn_wide.2 ?_
  simp only [Tryd.ntmps64, List.size_toArray, List.length_cons, List.length_nil, Nat.reduceAdd, Nat.reduceSub, Array.replicate_succ, Array.replicate_zero, List.push_toArray, List.append_toArray, List.nil_append, List.cons_append]
  go_wp2_with fail
  go_step3
  go_wp2_with fail
  go_step3
  have k0 := Has.new W 88 #[.func (.yield l) #[] #[]]
  have hb4 : Below W.heap.size W (W.alloc (.cells #[.func (.yield l) #[] #[]] 88)) := (Below.refl _ _).alloc (Nat.le_refl _) _
  have c1 := (hEW'.out.box.below hb4 hbl).cell 0
  have k0' := Lib.hid k0
  have hb4' := Lib.hid hb4
  clear k0 hb4
  go_wp2_with fail
  refine (said_any _ _ _ _).mono ?_
  rintro e w5 ⟨rfl, rfl⟩
  have hWs := hW'.out.size
  have k0 := k0'.out.alloc (.cells #[.slice A N c] 47)
  have k1 := Has.new (W.alloc (.cells #[.func (.yield l) #[] #[]] 88)) 47 #[.slice A N c]
  have hB5 : Below W.heap.size W ((W.alloc (.cells #[.func (.yield l) #[] #[]] 88)).alloc (.cells #[.slice A N c] 47)) := hb4'.out.alloc (by simp) _
  have hi5 : J [] ((W.alloc (.cells #[.func (.yield l) #[] #[]] 88)).alloc (.cells #[.slice A N c] 47)) := hJ'.out.alloc _ (hJ'.out.alloc _ h0'.out)
  simp only [World.size_alloc] at k1
  have hB5' := Lib.hid hB5
  have k0' := Lib.hid k0
  have k1' := Lib.hid k1
  have hi5' := Lib.hid hi5
  clear hB5 k0 k1 hi5
  go_wp2
  have hB5 := hB5'.out
  have k0 := k0'.out
  have k1 := k1'.out
  have hi5 := hi5'.out
  obtain ⟨w5, hw5⟩ : ∃ w5, (W.alloc (.cells #[.func (.yield l) #[] #[]] 88)).alloc (.cells #[.slice A N c] 47) = w5 := ⟨_, rfl⟩
  have hz5 : w5.heap.size = W.heap.size + 1 + 1 := by rw [← hw5]; simp
  rw [hw5] at hB5 k0 k1 hi5 ⊢
  clear hw5 hB5' k0' k1' hi5' hb4'
  have hE5 := hEW'.out.below hB5
  have hE5i : EnvS w5 (W.heap.size + 1) g A ls N c cur := ⟨hE5.num, k1, hE5.row, hE5.at', hE5.names, hE5.max, hE5.tab⟩
  have hWi : NotW Wr (W.heap.size + 1) g := ⟨fun h => by have := hWw _ h; omega, hWr.2⟩
  refine (wpIn_wide (n := 2)).1 ?_
  have hls : ∀ k, (ls.getD k []).length ≤ 1000 := fun k => by
    rw [List.getD_eq_getElem?_getD]
    cases hk : ls[k]? with
    | none => simp
    | some y => exact (hE5.at' k y hk).2
  have hls' := Lib.hid hls
  clear hls
  refine wpIn_rangeFunc_ownH rfl (by omega) (gf := 94) (lb := #[.pointer (some ⟨W.heap.size + 1, 0, none⟩)]) rfl trivial (enters_of Tryd.func94 (by kernel_rfl) rfl)
    (said_stops 1 (by omega) ls (W.heap.size + 1) g N c A cur (by omega) Wr hWi w5 hE5i)
    (fun h k => h.trans k) (fun V l o o' _ h1 h2 _ => KeepW.putObj V l o o' h1 h2) (Below.refl _ _) (fun _ => rfl)
    (fun pre V => J (pre.filter (cnt ls)) V ∧ Has V W.heap.size 88 #[.func (.yield l) #[] #[]] ∧ EnvS V bP g A ls N c cur) (fun c pre V => c = .exit 0 ∧ Jx (pre.filter (cnt ls)) V)
    (fun pre X Y row hs hg hr => ⟨OwnFrom.up hJ'.out (by omega) _ X Y row hs.1 hg hr, hs.2.1.row hg hr, hs.2.2.row' hg hr⟩)
    (fun c pre X Y row hs hg hr => ⟨hs.1, OwnFrom.up hJx'.out (by omega) _ X Y row hs.2 hg hr⟩)
    ⟨hi5, k0, hE5⟩
    (AxB ?F 37 (fun k => #[.int .i64 (tellS ls k).2.1, .string ⟨(tellS ls k).2.2.1.toArray⟩, .string ⟨(tellS ls k).2.2.2.toArray⟩])) axB_from
    ?assign ?body ?done ?stop
  case assign =>
    intro l1 pre x V K hI hK
    have hK' := Lib.hid hK
    have hI' := Lib.hid hI
    clear hK hI
    dsimp only [encK, encFd]
    have hx : (tellS ls x).1 = x := rfl
    rw [hx]
    clear hx
    have hnew := Lib.hid (Has.new V 37 #[.int .i64 (tellS ls x).2.1, .string ⟨(tellS ls x).2.2.1.toArray⟩, .string ⟨(tellS ls x).2.2.2.toArray⟩])
    gi_wp2
    obtain ⟨k, hk⟩ : ∃ k, V.heap.size = k := ⟨_, rfl⟩
    have hn2 := hnew.out
    rw [hk] at hn2 ⊢
    refine hK'.out _ _ ((KeepsOthers.alloc _ _).from _) (KeepW.below ((Below.refl _ _).alloc (Nat.le_refl _) _)) ⟨hJ'.out.alloc _ hI'.out.1, hI'.out.2.1.alloc _, hI'.out.2.2.below ((Below.refl _ _).alloc (Nat.le_refl _) _)⟩ ⟨k, ?_, hn2⟩
    rfl
  case body =>
    rintro l1 pre x a' V hl ⟨r, hr⟩ ⟨hi, hz, hE⟩ ⟨k, rfl, hk⟩ hlen
    have hlf := hls'.out x
    have hfl := fieldF_len (ls.getD x [])
    have hwf := fieldF_wf (ls.getD x [])
    have hct := countsF_any (fieldF (ls.getD x [])) V hwf (by omega) (by omega) hE.names hE.tab
    have hcx : cnt ls x = countsF (fieldF (ls.getD x [])) := rfl
    have htl : tellS ls x = (x, fieldF (ls.getD x [])) := rfl
    have hy0 : encK ls x = #[.int .i64 (x : Int), .agg #[.int .i64 (fieldF (ls.getD x [])).1, .string ⟨(fieldF (ls.getD x [])).2.1.toArray⟩, .string ⟨(fieldF (ls.getD x [])).2.2.toArray⟩]] := rfl
    have hk : Has V k 37 #[.int .i64 (tellS ls x).2.1, .string ⟨(tellS ls x).2.2.1.toArray⟩, .string ⟨(tellS ls x).2.2.2.toArray⟩] := hk
    rw [htl] at hk
    rw [← hcx] at hct
    have hy0' := Lib.hid hy0
    clear hcx htl hlf hfl hwf hy0
    unfold fieldV at hct
    generalize fieldF (ls.getD x []) = f at hct hk hy0'
    obtain ⟨ki, nm, vl⟩ := f
    simp only at hct hk hy0'
    have d0 := hk.cell 0
    have d1 := hk.cell 1
    have d2 := hk.cell 2
    have hct' := Lib.hid (CallsIn.inRound l1 (callsIn_wide (n := 1 - 1 - 1).2 hct))
    have hk' := Lib.hid hk
    have hz' := Lib.hid hz
    have hE' := Lib.hid hE
    have hi' := Lib.hid hi
    clear hct hk hz hE hi
    have hlen' := Lib.hid hlen
    cases hc : cnt ls x with
    | false =>
      rw [hc] at hct'
      gi_wp2_with (gi_at_call 29; (with_reducible refine CallsIn.mono hct'.out ?_); rintro e w6 ⟨rfl, hb6⟩)
      have hfe : (pre ++ [x]).filter (cnt ls) = pre.filter (cnt ls) := by rw [List.filter_append]; simp [hc]
      refine ⟨(others_below hb6).from _, KeepW.below hb6, ?_, hz'.out.below hb6 hz'.out.lt, hE'.out.below hb6⟩
      rw [hfe]
      exact hJ'.out _ V w6 none hi'.out (grown_below hb6) (fun r e => by cases e)
    | true =>
      rw [hc] at hct'
      have hfe := Lib.hid (show (pre ++ [x]).filter (cnt ls) = pre.filter (cnt ls) ++ [x] by rw [List.filter_append]; simp [hc])
      clear hc
      gi_wp2_with (gi_at_call 29; (with_reducible refine CallsIn.mono hct'.out ?_); rintro e w6 ⟨rfl, hb6⟩; have z0 := (hz'.out.below hb6 hz'.out.lt).cell 0; have x0 := (hk'.out.below hb6 hk'.out.lt).cell 0; have x1 := (hk'.out.below hb6 hk'.out.lt).cell 1; have x2 := (hk'.out.below hb6 hk'.out.lt).cell 2; have hb6' := Lib.hid hb6; have hj6 := Lib.hid (hJ'.out _ V w6 none hi'.out (grown_below hb6) (fun r e => by cases e)); have hyy := hY'.out _ x w6 hj6.out (Nat.lt_of_le_of_lt (List.length_filter_le _ _) hlen'.out); obtain ⟨fn, tmps, assign, body, hy, hR⟩ := hyy; rw [hy0'.out] at hy; have hy' : (Instr.yield l #[.int .i64 (x : Int), .agg #[.int .i64 ki, .string ⟨nm.toArray⟩, .string ⟨vl.toArray⟩]]).run Tryd.prog w6 = .ok (Next.round l fn tmps assign body) w6 := hy; have hR' := Lib.hid ((round_any (m' := 1 - 1 - 1) (l' := l1) hR).mono (R' := fun e V' => ∃ b, e = .returned (.bool b) ∧ KeepsFrom W.heap.size w6 V' ∧ YPost J Jx (KeepW Wr) (pre.filter (cnt ls) ++ [x]) w6 b V') (by
        rintro e V' ⟨h1, (⟨rfl, h2, h3⟩ | ⟨rfl, h2⟩)⟩
        · exact ⟨true, rfl, h1, h2, h3⟩
        · exact ⟨false, rfl, h1, h2⟩)); clear hy hR hb6)
      refine hR'.out.mono ?_
      rintro e V3 ⟨b, rfl, hkf, hP⟩
      have hkf' := Lib.hid hkf
      clear hkf
      cases b
      · have hP' := Lib.hid (show Jx (pre.filter (cnt ls) ++ [x]) V3 from hP)
        clear hP
        gi_wp2
        exact ⟨((others_below hb6'.out).from _).trans (KeepsFrom.up hkf'.out (by omega)), rfl, by rw [hfe.out]; exact hP'.out⟩
      · have hP' := Lib.hid (show J (pre.filter (cnt ls) ++ [x]) V3 ∧ KeepW Wr w6 V3 from hP)
        clear hP
        gi_wp2
        refine ⟨((others_below hb6'.out).from _).trans (KeepsFrom.up hkf'.out (by omega)), (KeepW.below hb6'.out).trans hP'.out.2, by rw [hfe.out]; exact hP'.out.1, hP'.out.2.has (fun h => by have := hWw _ h; omega) (hz'.out.below hb6'.out hz'.out.lt), (hE'.out.below hb6'.out).kept hWr hP'.out.2⟩
  case done =>
    rintro D xs V hD hS ⟨hi, hz⟩ hk
    have hi' := Lib.hid hi
    have hk' := Lib.hid hk
    have hS' := Lib.hid hS
    have hDW : W.heap.size ≤ D := by omega
    clear hi hz hk hS
    gi_wp2
    refine ⟨by simp, .inl ⟨_, _, rfl, run_takeDeferred hk'.out, ?_⟩⟩
    exact ⟨_, results_none rfl _ _ _, ⟨_, rfl⟩, .inl ⟨xs.filter (cnt ls), by rw [hS'.out], hJ'.out.putObj _ hi'.out hDW hk'.out rfl⟩⟩
  case stop =>
    rintro D c pre V hD hSp ⟨rfl, hx⟩ hk
    have hx' := Lib.hid hx
    have hk' := Lib.hid hk
    have hS' := Lib.hid hSp
    have hDW : W.heap.size ≤ D := by omega
    clear hx hk hSp
    gi_wp2
    refine ⟨by simp, .inl ⟨_, _, rfl, run_takeDeferred hk'.out, ?_⟩⟩
    obtain ⟨k, hk1, rfl⟩ := hS'.out
    exact ⟨_, results_none rfl _ _ _, ⟨_, rfl⟩, .inr ⟨_, ⟨k, hk1, rfl⟩, hJx'.out.putObj _ hx'.out hDW hk'.out rfl⟩⟩
end Go.Proofs.YtdkmajmmhngdpaaDoor
