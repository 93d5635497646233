import Derived.Test.YthdmmlaahjgijaaDoorM
namespace Go.Proofs.YthdmmlaahjgijaaDoor
open Go.RowKit Go.Shelf
attribute [local go_sem] Oper.semAt_some
attribute [local go_sem] wide_fn wide_depth wide_round

/-! ## Each -/
theorem readings_stops_at (n : Nat) (hn : 1 ≤ n) (s : ByteArray) (hm : s.size ≤ 9223372036854775807) (B n0 : Nat) (Wr : Nat → Prop) (w : World) (hn0 : n0 ≤ w.heap.size) (hWr : ∀ k, Wr k → k < n0) (hB : ¬ Wr B) (hG : ¬ Wr 0) (hgn : 0 < n0) (hT : Tab w) (h : Has w B 9 #[.string s]) :
    SeqStopsK Fence.wide n Tryd.prog 65 #[.pointer (some ⟨B, 0, none⟩)] (encRd s.data.toList) (KeepC n0 Wr) (fun ys => Part s.data.toList ys s.size) (fun pre => ∃ p, p ≤ s.size ∧ Part s.data.toList pre p) s.size w := fun l J Jx W hW hA _ hY h0 =>
  readings1_in n hn s hm l B n0 Wr hWr hB hG hgn J Jx (fun ys W1 W2 h1 h2 => hA ys W1 W2 none h1 (grown_below h2) (fun r e => by cases e)) hY W (Nat.le_trans hn0 hW.size) (hT.below hW) (h.below hW h.lt) h0
/-- What is told at a place: the place, and the point. -/
def encPt (l : List UInt8) (x : Fin l.length) : Array Value := #[.int .i64 ((x.val : Nat) : Int), .int .i64 ((lookAt l x.val).point : Int)]
theorem each_any (s : ByteArray) (w : World) : Calls Tryd.prog 20 #[.string s] w fun e w' => e = .returned (.func (.func 47) #[] #[.pointer (some ⟨w.heap.size, 0, none⟩)]) ∧ w' = w.alloc (.cells #[.string s] 9) := by
  go_enter Tryd.func20, Tryd.ntmps20
  go_wp2
  go_ret
  exact ⟨rfl, rfl⟩
theorem OwnFrom.up {β : Type} {B B' : Nat} {I : β → World → Prop} (h : OwnFrom B I) (hB : B ≤ B') : OwnFrom B' I := fun s X Y row hs hg hr => h s X Y row hs hg (fun r e => ⟨by have := (hr r e).1; omega, (hr r e).2⟩)
theorem KeepsFrom.up {B B' : Nat} {V V' : World} (h : KeepsFrom B V V') (hB : B ≤ B') : KeepsFrom B' V V' := ⟨h.size, fun k o hk => h.same k o (by omega)⟩
set_option maxRecDepth 100000 in
set_option maxHeartbeats 4000000 in
theorem each_stops (s : ByteArray) (hm : s.size ≤ 9223372036854775807) (B : Nat) (Wr : Nat → Prop) (w : World) (hWr : ∀ k, Wr k → k < w.heap.size) (_hB : ¬ Wr B) (hG : ¬ Wr 0) (hT : Tab w) (h : Has w B 9 #[.string s]) :
    SeqOwn 2 Tryd.prog 47 #[.pointer (some ⟨B, 0, none⟩)] (encPt s.data.toList) (KeepC w.heap.size Wr) (fun ys => Part s.data.toList ys s.size) (fun pre => ∃ p, p ≤ s.size ∧ Part s.data.toList pre p) s.size w := by
  intro l J Jx W hW hJ hJx hY h0
  have hT' := Lib.hid (hT.below hW)
  have hgw := hT.lt
  have hh := h.below hW h.lt
  have hWs := hW.size
  have c0 := hh.cell 0
  have hBlt := hh.lt
  have hl' := Lib.hid (show s.data.toList.length = s.size by simp only [Array.length_toList]; rfl)
  have hh' := Lib.hid hh
  have hW' := Lib.hid hW
  have hY' := Lib.hid hY
  have hJ' := Lib.hid hJ
  have hJx' := Lib.hid hJx
  have h0' := Lib.hid h0
  have hWr' := Lib.hid hWr
  clear hT hh hW h hY hJ hJx h0 hWr
  refine callsIn_of_wp_marks Tryd.func47 rfl trivial ?_ rfl
  refine wpIn_wide.2 ?_
  simp only [Tryd.ntmps47, List.size_toArray, List.length_cons, List.length_nil, Nat.reduceAdd, Nat.reduceSub, Array.replicate_succ, Array.replicate_zero, List.push_toArray, List.append_toArray, List.nil_append, List.cons_append]
  go_wp2_with fail
  refine (readings_any _ _).mono ?_
  rintro e w5 ⟨rfl, rfl⟩
  have hB5 : Below W.heap.size W ((W.alloc (.cells #[.func (.yield l) #[] #[]] 108)).alloc (.cells #[.string s] 9)) := ((Below.refl _ _).alloc (Nat.le_refl _) _).alloc (by simp) _
  have k0 := (Has.new W 108 #[.func (.yield l) #[] #[]]).alloc (.cells #[.string s] 9)
  have k1 := Has.new (W.alloc (.cells #[.func (.yield l) #[] #[]] 108)) 9 #[.string s]
  simp only [World.size_alloc] at k1
  have hT5 := hT'.out.below hB5
  have hi5 : J [] ((W.alloc (.cells #[.func (.yield l) #[] #[]] 108)).alloc (.cells #[.string s] 9)) := hJ'.out.alloc _ (hJ'.out.alloc _ h0'.out)
  have hB5' := Lib.hid hB5
  have k0' := Lib.hid k0
  have k1' := Lib.hid k1
  have hT5' := Lib.hid hT5
  have hi5' := Lib.hid hi5
  clear hB5 k0 k1 hT5 hi5
  go_wp2
  have hB5 := hB5'.out
  have k0 := k0'.out
  have k1 := k1'.out
  have hT5 := hT5'.out
  have hi5 := hi5'.out
  obtain ⟨w5, hw5⟩ : ∃ w5, (W.alloc (.cells #[.func (.yield l) #[] #[]] 108)).alloc (.cells #[.string s] 9) = w5 := ⟨_, rfl⟩
  have hz5 : w5.heap.size = W.heap.size + 1 + 1 := by rw [← hw5]; simp
  rw [hw5] at hB5 k0 k1 hT5 hi5 ⊢
  clear hw5 hB5' k0' k1' hT5' hi5'
  refine (wpIn_wide (n := 2)).1 ?_
  refine wpIn_rangeFunc_ownH rfl (by omega) (gf := 65) (lb := #[.pointer (some ⟨W.heap.size + 1, 0, none⟩)]) rfl trivial (enters_of Tryd.func65 (by kernel_rfl) rfl)
    (readings_stops_at 1 (by omega) s hm (W.heap.size + 1) w.heap.size Wr w5 (by omega) hWr'.out (fun hk => by have := hWr'.out _ hk; omega) hG (by omega) hT5 k1)
    (fun h k => h.trans k) (fun V l o o' _ h1 h2 _ => KeepC.putObj V l o o' h1 h2) (Below.refl _ _) (fun _ => rfl)
    (fun pre V => J pre V ∧ Has V W.heap.size 108 #[.func (.yield l) #[] #[]]) (fun c pre V => c = .ret ∧ Jx pre V)
    (fun pre X Y row hs hg hr => ⟨OwnFrom.up hJ'.out (by omega) pre X Y row hs.1 hg hr, hs.2.row hg hr⟩)
    (fun c pre X Y row hs hg hr => ⟨hs.1, OwnFrom.up hJx'.out (by omega) pre X Y row hs.2 hg hr⟩)
    ⟨hi5, k0⟩
    (AxB ?F 99 (fun x => readV (s.data.toList.drop x.val))) axB_from
    ?assign ?body ?done ?stop
  case assign =>
    intro l1 pre x V K hI hK
    have hK' := Lib.hid hK
    have hI' := Lib.hid hI
    clear hK hI
    have hV : readV (s.data.toList.drop x.val) = readV (s.data.toList.drop x.val) := rfl
    conv at hV => rhs; unfold readV
    have hV' := Lib.hid hV
    dsimp only [encRd]
    rw [hV'.out]
    clear hV
    gi_wp2
    obtain ⟨k, hk⟩ : ∃ k, V.heap.size = k := ⟨_, rfl⟩
    have hnew := Has.new V 99 (readV (s.data.toList.drop x.val))
    rw [hV'.out] at hnew
    rw [hk] at hnew ⊢
    refine hK'.out _ _ ((KeepsOthers.alloc _ _).from _) ((KeepC.refl _ _ _).alloc _) ⟨hJ'.out.alloc _ hI'.out.1, hI'.out.2.alloc _⟩ ⟨k, ?_, (show Has _ k _ (readV (s.data.toList.drop x.val)) from by rw [hV'.out]; exact hnew)⟩
    rfl
  case body =>
    rintro l1 pre x a' V hl ⟨r, hr⟩ ⟨hi, hz⟩ ⟨k, rfl, hk⟩ hlen
    have hk : Has V k 99 (readV (s.data.toList.drop x.val)) := hk
    unfold readV at hk
    have z0 := hz.cell 0
    have cp := hk.cell 0
    have hz' := Lib.hid hz
    obtain ⟨fn, tmps, assign, body, hy, hR⟩ := hY'.out pre x V hi hlen
    have hy' : (Instr.yield l #[.int .i64 ((x.val : Nat) : Int), .int .i64 ((look (s.data.toList.drop x.val)).point : Int)]).run Tryd.prog V = .ok (Next.round l fn tmps assign body) V := hy
    have hR' := Lib.hid ((round_any (m' := 1 - 1 - 1) (l' := l1) hR).mono (R' := fun e V' => ∃ b, e = .returned (.bool b) ∧ KeepsFrom W.heap.size V V' ∧ YPost J Jx (KeepC w.heap.size Wr) (pre ++ [x]) V b V') (by
      rintro e V' ⟨h1, (⟨rfl, h2, h3⟩ | ⟨rfl, h2⟩)⟩
      · exact ⟨true, rfl, h1, h2, h3⟩
      · exact ⟨false, rfl, h1, h2⟩))
    generalize (look (s.data.toList.drop x.val)).point = pt at cp hy'
    clear hy hR hz hi hk hr
    gi_wp2
    refine hR'.out.mono ?_
    rintro e V3 ⟨b, rfl, hkf, hP⟩
    have hkf' := Lib.hid hkf
    clear hkf
    cases b
    · have hP' := Lib.hid (show Jx (pre ++ [x]) V3 from hP)
      clear hP
      gi_wp2
      exact ⟨KeepsFrom.up hkf'.out (by omega), rfl, hP'.out⟩
    · have hP' := Lib.hid (show J (pre ++ [x]) V3 ∧ KeepC w.heap.size Wr V V3 from hP)
      clear hP
      gi_wp2
      exact ⟨KeepsFrom.up hkf'.out (by omega), hP'.out.2, hP'.out.1, hP'.out.2.has (.inr (by decide)) (fun h => by have := hWr'.out _ h; omega) hz'.out⟩
  case done =>
    rintro D xs V hD hS ⟨hi, hz⟩ hk
    have hi' := Lib.hid hi
    have hk' := Lib.hid hk
    have hS' := Lib.hid hS
    have hDW : W.heap.size ≤ D := by omega
    clear hi hz hk hS
    gi_wp2
    refine ⟨by simp, .inl ⟨_, _, rfl, run_takeDeferred hk'.out, ?_⟩⟩
    exact ⟨_, results_none rfl _ _ _, ⟨_, rfl⟩, .inl ⟨xs, hS'.out, hJ'.out.putObj _ hi'.out hDW hk'.out rfl⟩⟩
  case stop =>
    rintro D c pre V hD hSp ⟨rfl, hx⟩ hk
    have hx' := Lib.hid hx
    have hk' := Lib.hid hk
    have hS' := Lib.hid hSp
    have hDW : W.heap.size ≤ D := by omega
    clear hx hk hSp
    gi_wp2
    refine ⟨by simp, .inl ⟨_, _, rfl, run_takeDeferred hk'.out, ?_⟩⟩
    exact ⟨_, results_none rfl _ _ _, ⟨_, rfl⟩, .inr ⟨pre, hS'.out, hJx'.out.putObj _ hx'.out hDW hk'.out rfl⟩⟩
end Go.Proofs.YthdmmlaahjgijaaDoor
