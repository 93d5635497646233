import Derived.Test.YtbmemkbfignlaaaGreatDoorPk35
namespace Go.Proofs.YtbmemkbfignlaaaGreatDoor
open Go.RowKit Go.Shelf
attribute [local go_sem] Oper.semAt_some
attribute [local go_sem] wideF_fn wideF_depth wideF_round

/-! ## A list is read -/
namespace Ac
theorem allO_start {α β : Type} (f : α → Option β) (l : List α) : allO f l = (allO f l).map (([] : List β) ++ ·) := by cases allO f l <;> rfl
theorem allO_go {α β : Type} {f : α → Option β} {ls : List α} {done : List β} {j : Nat} {x : α} {y : β} (h : allO f ls = (allO f (ls.drop j)).map (done ++ ·)) (hj : j < ls.length) (hx : ls[j] = x) (hf : f x = some y) : allO f ls = (allO f (ls.drop (j + 1))).map ((done ++ [y]) ++ ·) := by
  rw [h, List.drop_eq_getElem_cons hj, hx]
  rw [show allO f (x :: ls.drop (j + 1)) = match f x, allO f (ls.drop (j + 1)) with | some y, some l => some (y :: l) | _, _ => none from rfl, hf]
  cases allO f (ls.drop (j + 1)) <;> simp
theorem allO_out {α β : Type} {f : α → Option β} {ls : List α} {done : List β} {j : Nat} {x : α} (h : allO f ls = (allO f (ls.drop j)).map (done ++ ·)) (hj : j < ls.length) (hx : ls[j] = x) (hf : f x = none) : allO f ls = none := by
  rw [h, List.drop_eq_getElem_cons hj, hx]
  rw [show allO f (x :: ls.drop (j + 1)) = match f x, allO f (ls.drop (j + 1)) with | some y, some l => some (y :: l) | _, _ => none from rfl, hf]
  rfl
theorem allO_fin {α β : Type} {f : α → Option β} {ls : List α} {done : List β} (h : allO f ls = (allO f (ls.drop ls.length)).map (done ++ ·)) : allO f ls = some done := by
  rw [h, List.drop_length]
  simp [allO]
theorem items_each {s : List UInt8} {p : List UInt8} (h : p ∈ items s) : p.length ≤ s.length := by
  obtain ⟨h1, _⟩ := List.mem_filter.1 h
  obtain ⟨x, hx, rfl⟩ := List.mem_map.1 h1
  have := sp_mem (c := 44) (by decide) false s x hx
  have := trim_len x
  omega
theorem items_many (s : List UInt8) : (items s).length ≤ s.length + 1 := by
  refine Nat.le_trans (List.length_filter_le _ _) ?_
  rw [List.length_map]
  exact sp_len (by decide) false s
end Ac
def ReadA (o : Option (List Ac.Rg)) (w : World) (e : Ending) (w' : World) : Prop := (match o with
  | some l => ∃ v, e = .returned v ∧ RgO w' w.heap.size v l
  | none => e = gaveEA) ∧ Below w.heap.size w w'
theorem readA_no {o : Option (List Ac.Rg)} {w w' : World} (h : o = none) (hb : Below w.heap.size w w') : ReadA o w gaveEA w' := by subst h; exact ⟨rfl, hb⟩
theorem readA_yes {o : Option (List Ac.Rg)} {v : Value} {l : List Ac.Rg} {w w' : World} (h : o = some l) (hv : RgO w' w.heap.size v l) (hb : Below w.heap.size w w') : ReadA o w (.returned v) w' := by subst h; exact ⟨⟨v, rfl, hv⟩, hb⟩
theorem RgO.mono {W : World} {n0 n1 : Nat} {v : Value} {l : List Ac.Rg} (h : RgO W n0 v l) (hn : n1 ≤ n0) : RgO W n1 v l := by
  refine ⟨h.1, ?_⟩
  rcases h.2 with h | ⟨g, cap, cur, rfl, hb, r⟩
  · exact .inl h
  · exact .inr ⟨g, cap, cur, rfl, by omega, r⟩
theorem RgO.ne {W : World} {n0 k : Nat} {v : Value} {l : List Ac.Rg} {t : TypeId} {cs : Array Value} (h : RgO W n0 v l) (hk : Has W k t cs) (ht : t ≠ 116) : ∀ g, v.ownBlock = some g → g ≠ k := fun g hg e => by
  obtain ⟨_, cs', hc⟩ := h.own g hg
  subst e
  have e1 : W.heap[g]? = some (.cells cs t (0, 0)) := hk
  have e2 : W.heap[g]? = some (.cells cs' 116 (0, 0)) := hc
  rw [e1] at e2
  injection e2 with e2
  injection e2 with _ e2 _
  exact ht e2
/-- The ranges so far. -/
def RdI (b : Nat) (w1 : World) (its : List (List UInt8)) (U : Nat → Prop) (j : Nat) (V : World) : Prop :=
  ∃ v done, Has V b 111 #[v] ∧ RgO V b v done ∧ done.length = j ∧ Ac.allO Ac.one its = (Ac.allO Ac.one (its.drop j)).map (done ++ ·) ∧ (∀ g, v.ownBlock = some g → ¬ U g) ∧ (∀ k, U k → b < k) ∧ Below b w1 V ∧ b + 1 ≤ V.heap.size
theorem rdI_turn {b : Nat} {w1 : World} {its : List (List UInt8)} {U U' : Nat → Prop} {j : Nat} {X Y : World} (h : RdI b w1 its U j X) (ht : TurnU U U' X Y) : RdI b w1 its U' j Y := by
  obtain ⟨v, done, h1, h2, h3, h4, h5, h6, h7, h8⟩ := h
  have n1 : ¬ U b := fun h => by have := h6 _ h; omega
  have hg : ∀ g, v.ownBlock = some g → g < X.heap.size := fun g hg => by obtain ⟨_, cs, hc⟩ := h2.own g hg; exact hc.lt
  exact ⟨v, done, ht.has n1 h1, h2.kept (fun g hg' => ht.same g (hg g hg') (h5 g hg')), h3, h4, fun g hg' => ht.out (h5 g hg') (hg g hg'), fun k hk => (ht.more k hk).elim (h6 k) (fun h => by omega),
    ht.below (fun k hk => by have := h6 k hk; omega) (by omega) h7, by have := ht.size; omega⟩
/-- It was given up. -/
def RdP (b : Nat) (w1 : World) (its : List (List UInt8)) (U : Nat → Prop) (V : World) : Prop := Ac.allO Ac.one its = none ∧ (∀ k, U k → b < k) ∧ Below b w1 V ∧ b + 1 ≤ V.heap.size
theorem rdP_turn {b : Nat} {w1 : World} {its : List (List UInt8)} {U U' : Nat → Prop} {X Y : World} (h : RdP b w1 its U X) (ht : TurnU U U' X Y) : RdP b w1 its U' Y := by
  obtain ⟨h4, h6, h7, h8⟩ := h
  exact ⟨h4, fun k hk => (ht.more k hk).elim (h6 k) (fun h => by omega), ht.below (fun k hk => by have := h6 k hk; omega) (by omega) h7, by have := ht.size; omega⟩
theorem below_drew {W V : World} (h : Below W.drew.heap.size W.drew V) : Below W.heap.size W V := ⟨h.os, h.tape, h.output, h.size, h.block⟩
set_option maxRecDepth 100000 in
set_option maxHeartbeats 4000000 in
theorem acRead_any (s : List UInt8) (w : World) (hT : TabA w) (hs : s.length ≤ 500000) : Calls Tryz.prog 197 #[.string ⟨s.toArray⟩] w (ReadA (Ac.list s) w) := by
  have hv := value_any s w (by omega)
  unfold BoolR at hv
  cases hval : valueL s with
  | false =>
    have hno := Lib.hid (show Ac.list s = none by unfold Ac.list; rw [Ac.value_eq, hval]; rfl)
    rw [hval] at hv
    have hv' := Lib.hid hv
    clear hv hval
    go_enter Tryz.func197, Tryz.ntmps197
    go_wp2_with (first
      | (go_at_call 55; (with_reducible refine Calls.mono hv'.out ?_); rintro e w1 ⟨rfl, hb1⟩; have hb1' := Lib.hid hb1; clear hb1)
      | (go_at_call 202; (with_reducible refine Calls.mono (mustA_no _) ?_); rintro e w3 ⟨rfl, hw3⟩; obtain rfl := hw3.symm))
    exact ⟨rfl, readA_no hno.out hb1'.out⟩
  | true =>
    have hlist := Lib.hid (show Ac.list s = Ac.allO Ac.one (Ac.items s) by unfold Ac.list; rw [Ac.value_eq, hval]; rfl)
    rw [hval] at hv
    have hv' := Lib.hid hv
    clear hv hval
    refine (callsIn_wide (n := 5)).1 ?_
    refine calls_of_wpK Tryz.func197 rfl ?_
    simp only [Tryz.ntmps197, List.size_toArray, List.length_cons, List.length_nil, Nat.reduceAdd, Nat.reduceSub, Array.replicate_succ, Array.replicate_zero, List.push_toArray, List.append_toArray, List.nil_append, List.cons_append]
    refine wpK_after ?_
    go_wp2
    refine wpK_after ?_
    go_wp2_with (first
      | (go_at_call 55; (with_reducible refine Calls.mono hv'.out ?_); rintro e w1 ⟨rfl, hb1⟩; have hb1' := Lib.hid hb1; clear hb1)
      | (go_at_call 202; (with_reducible refine Calls.mono (mustA_yes _) ?_); rintro e w3 ⟨rfl, hw3⟩; obtain rfl := hw3.symm))
    obtain ⟨b, hb⟩ : ∃ b, w1.heap.size = b := ⟨_, rfl⟩
    obtain ⟨wb, hwb⟩ : ∃ wb, w1.alloc (.cells #[.slice none 0 0] 111) = wb := ⟨_, rfl⟩
    have hBb : Below w1.heap.size w1 wb := by rw [← hwb]; exact (Below.refl _ _).alloc (Nat.le_refl _) _
    have kb : Has wb b 111 #[.slice none 0 0] := by rw [← hwb, ← hb]; exact Has.new _ _ _
    have zb : wb.heap.size = b + 1 := by rw [← hwb, World.size_alloc, hb]
    obtain ⟨wc, hwc⟩ : ∃ wc, wb.alloc (.cells #[.string ⟨s.toArray⟩] 9) = wc := ⟨_, rfl⟩
    have hp := items_maker s wb
    rw [hwc, zb] at hp
    have hp1 : Has wc (b + 1) 9 #[.string ⟨s.toArray⟩] := by rw [← hwc, ← zb]; exact Has.new _ _ _
    have hBc : Below wb.heap.size wb wc := by rw [← hwc]; exact (Below.refl _ _).alloc (Nat.le_refl _) _
    have zc : wc.heap.size = b + 2 := by rw [← hwc, World.size_alloc, zb]
    have hBw1 : Below w1.heap.size w1 wc := hBb.trans (hBc.mono hBb.size)
    obtain ⟨its, hits⟩ : ∃ its, Ac.items s = its := ⟨_, rfl⟩
    have hil : its.length ≤ 600000 := by have := Ac.items_many s; rw [hits] at this; omega
    have hie : ∀ p ∈ its, p.length ≤ 500000 := fun p hp => by rw [← hits] at hp; have := Ac.items_each hp; omega
    have hseq := Lib.hid (items1_seq 6 s (by omega) (b + 1) wc hp1)
    rw [hits] at hseq hlist
    have hi0 := Lib.hid (show RdI b w1 its (cap1 (b + 1)) 0 wc from ⟨.slice none 0 0, [], kb.below hBc kb.lt, rgO_nil _ _, rfl, by rw [List.drop_zero]; exact Ac.allO_start _ _, (fun g hg => by cases hg), (fun k hk => by have : k = b + 1 := hk; omega), by rw [← hb]; exact hBw1, by omega⟩)
    have hcapE := Lib.hid (show ∀ k, cap1 (b + 1) k → k < wc.heap.size from fun k h => by have : k = b + 1 := h; omega)
    have hp' := Lib.hid hp
    have hie' := Lib.hid hie
    have hwb1 : w.heap.size ≤ b := by have := hb1'.out.size; omega
    have hT1 := Lib.hid (hT.below hb1'.out)
    have hb1b := Lib.hid (show Below b w1 wc by rw [← hb]; exact hBw1)
    clear hBb hBc hBw1 hp hp1 kb hits hie hT hwc
    refine wpK_after ?_
    go_wp2
    try rw [hwb]
    refine wpK_seq (wpK_after ?_)
    go_wp2_with (go_at_call 203; (with_reducible refine Calls.mono hp'.out ?_); rintro e w3 ⟨rfl, hw3⟩; obtain rfl := hw3.symm)
    refine wpK_block ?_
    refine wpK_range (n := 5) (gf := 213) (lb := #[.pointer (some ⟨b + 1, 0, none⟩)]) rfl (enters_of Tryz.func213 (by kernel_rfl) rfl)
      hseq.out (Below.refl _ _) hcapE.out (fun _ => rfl) (RdI b w1 its) (fun _ _ _ _ => False) gaveDA (RdP b w1 its)
      (fun U U' j X Y h ht => rdI_turn h ht) (fun _ _ _ _ _ _ h _ => h) (fun U U' X Y h ht => rdP_turn h ht) hi0.out ?a1 ?assign ?body ?done (fun _ _ _ _ _ _ _ _ _ _ _ h _ => h.elim) ?gave
    case assign =>
      intro l2 x V K hK
      have hK' := Lib.hid hK
      clear hK
      dsimp only [encIt]
      gi_wp2
      exact hK'.out
    case body =>
      rintro l2 U j V hUl ⟨v, done, h1, h2, h3, h4, h5, h6, h7, h8⟩ hj
      obtain ⟨p, hpj⟩ : ∃ p, its[j]?.getD [] = p := ⟨_, rfl⟩
      have hpd : its[j] = p := by rw [← hpj, List.getElem?_eq_getElem hj]; rfl
      have hpl := hie'.out p (by rw [← hpd]; exact List.getElem_mem hj)
      try rw [hpj]
      have hgl : ∀ g, v.ownBlock = some g → g < V.heap.size := fun g hg => by obtain ⟨_, cs, hc⟩ := h2.own g hg; exact hc.lt
      have n1 : ¬ U b := fun h => by have := h6 _ h; omega
      have hTV : TabA V.drew := by
        obtain ⟨m, hm⟩ := hT1.out
        exact ⟨m, (h7.block _ (by have := hm.lt; omega)).trans hm⟩
      have hra := ranged_any p V.drew hTV hpl
      have hH : RdH b b v done V.drew := ⟨h1, h2, by omega, by show b ≤ V.heap.size; omega⟩
      gi_wp2
      refine read_region hH ?_
      unfold RdCall
      refine CallsIn.inRound l2 (callsIn_wide.2 (hra.mono ?_))
      rintro e V1 ⟨hr, hb1⟩
      refine ⟨hb1, ?_⟩
      have hb2 := below_drew hb1
      cases ho : Ac.one p with
      | none =>
        rw [ho] at hr
        refine .inr ⟨hr, fun a ha => ⟨ha, rfl, KeptU.below hb2 hUl, Ac.allO_out h4 hj hpd ho, h6, h7.trans (hb2.mono (by omega)), by have := hb2.size; omega⟩⟩
      | some r =>
        rw [ho] at hr
        refine .inl ⟨r, hr, ?_⟩
        intro a V2 V4 A m c ha hV2 hR4 hg4 ho4 hb4
        have hV2' := below_drew hV2
        have hz2 := hV2'.size
        have hz4 : V2.heap.size + 1 ≤ V4.heap.size := by have := hg4.size; rw [World.size_alloc] at this; exact this
        have hK4 : KeptU U V V4 := ((KeptU.below hV2' hUl).alloc (fun k hk => by have := hUl k hk; omega) _).grown (fun k hk => by have := hUl k hk; rw [World.size_alloc]; omega) hg4 (fun g hg => h5 g hg)
        have hB4 : Below b w1 V4 := by
          have e := (h7.trans (hV2'.mono (by omega))).alloc (by omega) (.cells (rgC r).toArray 116)
          exact ⟨hg4.os.trans e.os, hg4.tape.trans e.tape, hg4.output.trans e.output, Nat.le_trans e.size hg4.size, fun k hk => (hg4.block k (by rw [World.size_alloc]; omega) (fun e' => by
            have := (h2.own k e'.symm).1; omega)).trans (e.block k hk)⟩
        refine ⟨hK4.set (p := ⟨b, 0, none⟩) n1 _, .slice A m c, done ++ [r], ?_, ?_, ?_, Ac.allO_go h4 hj hpd ho, ?_, h6, hB4.setCell (p := ⟨b, 0, none⟩) (Nat.le_refl _) _, by simp [World.setCell]; omega⟩
        · simpa using hb4.put 0 (.slice A m c)
        · exact hR4.kept (fun g hg => Below.heap_setCell _ _ _ g (hR4.ne hb4 (by decide) g hg))
        · rw [List.length_append, List.length_singleton, h3]
        · intro g hg
          rcases ho4 with h | h
          · exact h5 g (h.symm.trans hg)
          · rw [hg] at h
            have := Option.some.inj h
            intro hu
            have := hUl g hu
            omega
    case done =>
      rintro U d W hd hUd hU1 hU2 hUl ⟨v, done, h1, h2, h3, h4, h5, h6, h7, h8⟩ hk
      have hfin := Lib.hid (show Ac.list s = some done from hlist.out.trans (Ac.allO_fin h4))
      obtain ⟨A, m, c, rfl⟩ := rgO_shape h2
      have c0 := h1.cell 0
      have hRW : RgO (W.putObj d (.deferred none)) w.heap.size (.slice A m c) done := (h2.mono hwb1).kept (fun g hg => World.putObj_heap_other (fun e => h5 g hg (e ▸ hUd)))
      have hBW : Below w.heap.size w (W.putObj d (.deferred none)) := by
        have e := hb1'.out.trans (h7.mono hwb1)
        exact ⟨e.os, e.tape, e.output, by have := e.size; simpa [World.putObj] using this, fun i hi => (World.putObj_heap_other (by omega)).trans (e.block i hi)⟩
      have hRW' := Lib.hid hRW
      have hBW' := Lib.hid hBW
      have hk' := Lib.hid hk
      clear hRW hBW hk h1 h2 h4 h5 h6 h7
      show wpK _ _ _ _ _
      refine wpK_of ?_
      go_wp2
      refine ⟨by simp, .inl ⟨_, _, rfl, run_takeDeferred hk'.out, ?_⟩⟩
      refine ⟨.slice A m c, by simp [results, Tryz.results197, go_sem], readA_yes hfin.out hRW'.out hBW'.out⟩
    case gave =>
      rintro U d W hd hUd hU2 hUl ⟨h4, h6, h7, h8⟩ hk
      refine ⟨by simp, .inl ⟨_, _, rfl, run_takeDeferred hk, ?_⟩⟩
      refine readA_no (hlist.out.trans h4) ?_
      have e := hb1'.out.trans (h7.mono hwb1)
      exact ⟨e.os, e.tape, e.output, by have := e.size; simpa [World.putObj] using this, fun i hi => (World.putObj_heap_other (by omega)).trans (e.block i hi)⟩
end Go.Proofs.YtbmemkbfignlaaaGreatDoor
