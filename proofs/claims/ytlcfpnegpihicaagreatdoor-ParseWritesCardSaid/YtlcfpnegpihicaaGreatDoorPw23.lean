import Derived.Test.YtlcfpnegpihicaaGreatDoorPw22
import Derived.Test.YtlcfpnegpihicaaGreatDoorPw17
import Derived.Test.YtlcfpnegpihicaaGreatDoorPw19
namespace Go.Proofs.YtlcfpnegpihicaaGreatDoor
open Go.RowKit Go.Shelf
attribute [local go_sem] Oper.semAt_some
attribute [local go_sem] wide_fn wide_depth wide_round

/-! ## What comes of bytes -/
theorem stepsP_count (most : Nat) : ∀ (fs : List FdT) (s : PrS), (stepsP most s fs).2.length ≤ fs.length
  | [], _ => Nat.le_refl _
  | f :: r, s => by
    have ih := stepsP_count most r (doP most s f).1
    show ((doP most s f).2.toList ++ _).length ≤ _
    rw [List.length_append, List.length_cons]
    have : (doP most s f).2.toList.length ≤ 1 := by cases (doP most s f).2 <;> simp
    omega
theorem fieldsL_count (ls : List (List UInt8 × Bool)) : (fieldsL ls).length ≤ ls.length := List.length_filterMap_le _ _
/-- A parser that stands. -/
structure PsAt (W : World) (nb p sp dp most m : Nat) (dv : Value) (ob : Option Nat) (c : CSt) (s : PrS) : Prop where
  pr : Has W p 71 (prC sp dv s most m)
  data : Bs W nb dv s.data
  spl : SpO W nb sp dp most ob c
  apart : ∀ g, dv.ownBlock = some g → ob ≠ some g
theorem PsAt.below {W W' : World} {nb p sp dp most m : Nat} {dv : Value} {ob : Option Nat} {c : CSt} {s : PrS} (h : PsAt W nb p sp dp most m dv ob c s) (hb : Below W.heap.size W W') : PsAt W' nb p sp dp most m dv ob c s :=
  ⟨h.pr.below hb h.pr.lt, h.data.below hb, h.spl.below hb, h.apart⟩
/-- The parser's blocks are no splitter's. -/
theorem PsAt.off {W : World} {nb p sp dp most m : Nat} {dv : Value} {ob : Option Nat} {c : CSt} {s : PrS} (h : PsAt W nb p sp dp most m dv ob c s) : ¬ ChL sp dp ob p ∧ ∀ k, dv.ownBlock = some k → ¬ ChL sp dp ob k ∧ k ≠ p := by
  obtain ⟨vb, a1, a2, a3, a4⟩ := h.spl
  obtain ⟨_, _, _, _, _, hd⟩ := a3
  have hp : W.heap[p]? = some (.cells _ 71 (0, 0)) := h.pr
  have hs : W.heap[sp]? = some (.cells _ 168 (0, 0)) := a1
  have hD : W.heap[dp]? = some (.cells _ 208 (0, 0)) := hd
  have ne : ∀ {k j : Nat} {x y : Array Value} {t u : TypeId}, W.heap[k]? = some (.cells x t (0, 0)) → W.heap[j]? = some (.cells y u (0, 0)) → t ≠ u → k ≠ j := fun h1 h2 ht e => by
    subst e
    rw [h1] at h2
    injection h2 with h2
    injection h2 with _ h2 _
    exact ht h2
  refine ⟨?_, fun k hk => ⟨?_, ?_⟩⟩
  · rintro (rfl | rfl | h1)
    · exact ne hp hs (by decide) rfl
    · exact ne hp hD (by decide) rfl
    · obtain ⟨_, _, hh⟩ := a2.own p (a4.trans h1)
      exact ne hp hh (by decide) rfl
  · obtain ⟨_, _, hh⟩ := h.data.own k hk
    rintro (rfl | rfl | h1)
    · exact ne hh hs (by decide) rfl
    · exact ne hh hD (by decide) rfl
    · exact h.apart k hk h1
  · obtain ⟨_, _, hh⟩ := h.data.own k hk
    exact ne hh hp (by decide)
def ChP (sp dp p : Nat) (ob od : Option Nat) (k : Nat) : Prop := ChL sp dp ob k ∨ k = p ∨ od = some k
set_option maxHeartbeats 2000000 in
theorem come_seq (n : Nat) (hn : 3 ≤ n) (p sp dp most m nb pc : Nat) (PA A : Option Addr) (dv : Value) (ob : Option Nat) (c : CSt) (s : PrS) (x : List UInt8) (WrO : Nat → Prop) (w : World) (h : PsAt w nb p sp dp most m dv ob c s)
    (hc : c.ok most) (hok : s.ok m most) (hll : s.last.length ≤ 1000000) (hm1 : 1 ≤ most) (hl : most ≤ 65536) (hm : m ≤ 65536) (hx : x.length ≤ 4096) (hr : Rd w (fun k => k < w.heap.size ∧ ¬ ChL sp dp ob k) A x)
    (hpc : ∀ k y, (pcs x)[k]? = some y → y = x ∧ ∃ g cs, PA = some ⟨g, 0, none⟩ ∧ Has w g 22 cs ∧ k = 0 ∧ cs[0]? = some (.slice A x.length x.length))
    (hT : FTabs w) (hL : FLow nb) (hnb : nb ≤ w.heap.size) (hnp : nb ≤ p ∧ nb ≤ sp ∧ nb ≤ dp) (hW : ∀ k, WrO k → nb ≤ k ∧ k < w.heap.size ∧ k ≠ p ∧ ¬ ChL sp dp ob k ∧ dv.ownBlock ≠ some k) :
    SeqG n Tryz.prog 59 #[.pointer (some ⟨w.heap.size + 3, 0, none⟩), .pointer (some ⟨w.heap.size + 2, 0, none⟩)] (ChP sp dp p ob dv.ownBlock) WrO
      (fun xs => xs = numS 0 (stepsP m s (fieldsL (stepC most c x).1)).2) (fun pre => ∃ k, 0 < k ∧ pre = (numS 0 (stepsP m s (fieldsL (stepC most c x).1)).2).take k) (GFin p sp dp most m nb (ComeW p PA (pcs x).length pc w).heap.size ob dv.ownBlock (stepsP m s (fieldsL (stepC most c x).1)).1 (stepC most c x).2) (stepsP m s (fieldsL (stepC most c x).1)).2.length (ComeW p PA (pcs x).length pc w) := by
  obtain ⟨oC, oD⟩ := h.off
  obtain ⟨l1, l2, l3, l4⟩ := h.spl.lt
  have hpl := h.pr.lt
  have b0 := Has.new w 127 #[.pointer (some ⟨p, 0, none⟩)]
  have b1 := Has.new (w.alloc (.cells #[.pointer (some ⟨p, 0, none⟩)] 127)) 76 #[.slice PA (pcs x).length pc]
  have b2 := Has.new ((w.alloc (.cells #[.pointer (some ⟨p, 0, none⟩)] 127)).alloc (.cells #[.slice PA (pcs x).length pc] 76)) 105 #[.func (.func 41) #[.pointer (some ⟨p, 0, none⟩)] #[]]
  have b3 := Has.new (((w.alloc (.cells #[.pointer (some ⟨p, 0, none⟩)] 127)).alloc (.cells #[.slice PA (pcs x).length pc] 76)).alloc (.cells #[.func (.func 41) #[.pointer (some ⟨p, 0, none⟩)] #[]] 105)) 107 #[.func (.func 61) #[] #[.pointer (some ⟨w.heap.size + 1, 0, none⟩), .pointer (some ⟨w.heap.size, 0, none⟩)]]
  have hB : Below w.heap.size w (ComeW p PA (pcs x).length pc w) := by
    unfold ComeW
    exact ((((Below.refl _ _).alloc (Nat.le_refl _) _).alloc (by simp) _).alloc (by simp; omega) _).alloc (by simp; omega) _
  have e0 : Has (ComeW p PA (pcs x).length pc w) w.heap.size 127 #[.pointer (some ⟨p, 0, none⟩)] := by unfold ComeW; exact ((b0.alloc _).alloc _).alloc _
  have e1 : Has (ComeW p PA (pcs x).length pc w) (w.heap.size + 1) 76 #[.slice PA (pcs x).length pc] := by
    unfold ComeW
    simp only [World.size_alloc] at b1
    exact (b1.alloc _).alloc _
  have e2 : Has (ComeW p PA (pcs x).length pc w) (w.heap.size + 2) 105 #[.func (.func 41) #[.pointer (some ⟨p, 0, none⟩)] #[]] := by
    unfold ComeW
    simp only [World.size_alloc] at b2
    exact b2.alloc _
  have e3 : Has (ComeW p PA (pcs x).length pc w) (w.heap.size + 3) 107 #[.func (.func 61) #[] #[.pointer (some ⟨w.heap.size + 1, 0, none⟩), .pointer (some ⟨w.heap.size, 0, none⟩)]] := by
    unfold ComeW
    simp only [World.size_alloc] at b3
    exact b3
  have hz : (ComeW p PA (pcs x).length pc w).heap.size = w.heap.size + 4 := by unfold ComeW; simp
  generalize ComeW p PA (pcs x).length pc w = w3 at *
  have hPs := h.below hB
  have hT3 : FTabs w3 := hT.kept hL (fun k hk => hB.block k (by omega))
  have hCw : ∀ k, ChL sp dp ob k → nb ≤ k ∧ k < w.heap.size := fun k hk => by
    rcases hk with rfl | rfl | hk
    · exact ⟨hnp.2.1, l1⟩
    · exact ⟨hnp.2.2, l2⟩
    · exact ⟨(l4 k hk).2.2.2, (l4 k hk).1⟩
  have hdw : ∀ k, dv.ownBlock = some k → nb ≤ k ∧ k < w.heap.size := fun k hk => ⟨(h.data.own k hk).1, (h.data.own k hk).2.choose_spec.lt⟩
  refine gather1_seq n hn p sp dp most m nb (w.heap.size + 3) (w.heap.size + 2) ob dv.ownBlock _ c s x WrO w3 hok hll hm hl ⟨dv, hPs.pr, hPs.data, rfl⟩ e3 e2 ?_ ?_ ?_ hT3 hL (by omega) (fun k hk => ⟨(hCw k hk).1, by have := (hCw k hk).2; omega, fun hw => (hW k hw).2.2.2.1 hk⟩) oC (fun hw => (hW p hw).2.2.1 rfl) hnp.1 (fun k hk => ⟨(oD k hk).1, fun hw => (hW k hw).2.2.2.2 hk, (hdw k hk).1, by have := (hdw k hk).2; omega⟩) (fun k hk => ⟨(hW k hk).1, by have := (hW k hk).2.1; omega⟩) ⟨fun hw => by have := (hW _ hw).2.1; omega, fun hk => by have := (hCw _ hk).2; omega, by omega, fun hk => by have := (hdw _ hk).2; omega⟩
  · intro V Wr hV hWr
    have hBV : Below w.heap.size w V := hB.trans (hV.mono hB.size)
    have q0 := e0.below hV e0.lt
    have q1 := e1.below hV e1.lt
    have hPV := h.below hBV
    by_cases hx0 : x = []
    · subst hx0
      exact fields1_none (n - 1) p sp dp most nb (w.heap.size + 1) w.heap.size pc PA ob c Wr V hPV.spl hc q1
    · have hpx : pcs x = [x] := by unfold pcs; rw [if_neg hx0]
      obtain ⟨_, g, cs, rfl, hg, _, hc0⟩ := hpc 0 x (by rw [hpx]; rfl)
      rw [hpx] at q1
      exact fields1_some (n - 1) p sp dp most nb (w.heap.size + 1) w.heap.size g x.length 0 pc A ob c x cs _ Wr V hPV.spl hc hm1 hl hx q1 q0 (hg.below hBV hg.lt) hc0 (Nat.le_refl _) (by omega) hPV.pr rfl ((hr.kept (fun k hk => hBV.block k hk.1)).mono (fun k hk => ⟨Nat.lt_of_lt_of_le hk.1 hBV.size, hk.2⟩)) (hT3.kept hL (fun k hk => hV.block k (by omega))) hL (by have := hV.size; omega) hWr (fun k hk => (hCw k hk).1)
  · intro f hf
    unfold fieldsL at hf
    obtain ⟨y, hy, hyf⟩ := List.mem_filterMap.1 hf
    obtain ⟨g1, g2, g3, _⟩ := stepC_good hc x y hy
    refine ⟨said_ok ⟨g1, g2, g3⟩ hyf, said_counts hyf, ?_⟩
    have := said_name hyf
    omega
  · have h1 := stepsP_count m (fieldsL (stepC most c x).1) s
    have h2 := fieldsL_count (stepC most c x).1
    have h3 := stepC_count (most := most) c x
    have h4 : c.ws.length ≤ 3 := by obtain ⟨vb, _, _, a3, _⟩ := h.spl; exact a3.len
    omega
end Go.Proofs.YtlcfpnegpihicaaGreatDoor

namespace Go.Proofs.YtlcfpnegpihicaaGreatDoor
open Go.RowKit Go.Shelf
attribute [local go_sem] Oper.semAt_some
attribute [local go_sem] wide_fn wide_depth wide_round

/-! ## Write -/
theorem ChP.lt {W : World} {nb p sp dp most m : Nat} {dv : Value} {ob : Option Nat} {c : CSt} {s : PrS} (h : PsAt W nb p sp dp most m dv ob c s) {k : Nat} (hk : ChP sp dp p ob dv.ownBlock k) : k < W.heap.size := by
  obtain ⟨l1, l2, l3, l4⟩ := h.spl.lt
  rcases hk with (rfl | rfl | hk) | rfl | hk
  · exact l1
  · exact l2
  · exact (l4 k hk).1
  · exact h.pr.lt
  · exact (h.data.own k hk).2.choose_spec.lt
/-- What is told so far, in the first box behind w. -/
def ToldI (w : World) (Ch : Nat → Prop) (n1 : Nat) (pre : List (Nat × Sd)) (V : World) : Prop :=
  (∃ v, Has V w.heap.size 24 #[v] ∧ Sds V n1 v (pre.map (·.2))) ∧ Chg Ch w V ∧ w.heap.size < n1
theorem ToldI.eff {w X Y : World} {Ch : Nat → Prop} {n1 B : Nat} {pre : List (Nat × Sd)} (h : ToldI w Ch n1 pre X) (he : Eff B Ch X Y) (hB : w.heap.size < B) (hCh : ∀ k, Ch k → k < w.heap.size) : ToldI w Ch n1 pre Y := by
  obtain ⟨⟨v, h1, h2⟩, h3, h4⟩ := h
  refine ⟨⟨v, (he.low _ hB h1.lt (fun hc => by have := hCh _ hc; omega)).trans h1, h2.kept (fun g hg => ?_)⟩, ⟨he.os.trans h3.os, he.tape.trans h3.tape, he.output.trans h3.output, Nat.le_trans h3.size he.size, fun k hk hn => (he.low k (by omega) (Nat.lt_of_lt_of_le hk h3.size) hn).trans (h3.block k hk hn)⟩, h4⟩
  obtain ⟨hg1, cs, hh⟩ := h2.own g hg
  exact (he.high g cs (0, 0) hh (fun hc => by have := hCh _ hc; omega)).trans hh.symm
theorem GFin.putNon {p sp dp most m nb B l : Nat} {ob od : Option Nat} {s' : PrS} {c' : CSt} {X : World} {o : Obj} (h : GFin p sp dp most m nb B ob od s' c' X) (o' : Obj) (hl : X.heap[l]? = some o) (hc : o.isCells = false) : GFin p sp dp most m nb B ob od s' c' (X.putObj l o') := by
  obtain ⟨dv', ob', h1, h2, ⟨vb, q1, q2, q3, q4⟩, h4, h5, h6⟩ := h
  have bk : ∀ {v : Value} {d : List UInt8}, Bs X nb v d → Bs (X.putObj l o') nb v d := fun h2 => h2.kept (fun g hg => by obtain ⟨_, _, hh⟩ := h2.own g hg; exact (hh.putNon o' hl hc).trans hh.symm)
  refine ⟨dv', ob', h1.putNon o' hl hc, bk h2, ⟨vb, q1.putNon o' hl hc, bk q2, q3.kept ?_, q4⟩, h4, h5, h6⟩
  obtain ⟨_, hd⟩ := q3.typed
  exact (hd.putNon o' hl hc).trans hd.symm
theorem keepO_said {n1 bt n0 : Nat} {WrO : Nat → Prop} {W W1 W2 : World} {v u : Value} {l : List Sd} (hb : Below W.heap.size W W1) (hS : Sds W1 n0 v l) (hg : W1.grownBy W2 v.ownBlock) (hw : WrO bt) (hn : n1 ≤ n0) (hn1 : n1 ≤ W.heap.size) : KeepO n1 WrO W (W2.setCell ⟨bt, 0, none⟩ u) := by
  have hz1 := hb.size
  have hz2 := hg.size
  refine ⟨by simp; omega, fun k hk hn' => ?_, fun k cs t fr h1 ht hn' => ?_⟩
  · exact (Below.heap_setCell _ ⟨bt, 0, none⟩ _ k (fun (h : k = bt) => hn' (h ▸ hw))).trans ((hg.block k (by omega) (fun e => by have := (hS.own k e.symm).1; omega)).trans (hb.block k (by omega)))
  · have hl := (Array.getElem?_eq_some_iff.1 h1).1
    have e1 : W1.heap[k]? = some (.cells cs t fr) := (hb.block k hl).trans h1
    refine (Below.heap_setCell _ ⟨bt, 0, none⟩ _ k (fun (h : k = bt) => hn' (h ▸ hw))).trans ((hg.block k (by omega) (fun e => ?_)).trans e1)
    obtain ⟨_, cs', hh⟩ := hS.own k e.symm
    have hh' : W1.heap[k]? = some (.cells cs' 40 (0, 0)) := hh
    rw [e1] at hh'
    injection hh' with h5
    injection h5 with _ h5 _
    exact ht h5
def WroteP (nb p most m : Nat) (sp dp : Nat) (dv : Value) (ob : Option Nat) (c : CSt) (s : PrS) (x : List UInt8) (w : World) (e : Ending) (w' : World) : Prop :=
  ∃ v dv' ob', e = .returned (.tuple #[v, .int .i64 0]) ∧ Sds w' w.heap.size v (stepsP m s (fieldsL (stepC most c x).1)).2 ∧ PsAt w' nb p sp dp most m dv' ob' (stepC most c x).2 (stepsP m s (fieldsL (stepC most c x).1)).1 ∧
    (∀ g, dv'.ownBlock = some g → dv.ownBlock = some g ∨ w.heap.size ≤ g) ∧ (∀ g, ob' = some g → ob = some g ∨ w.heap.size ≤ g) ∧ Chg (ChP sp dp p ob dv.ownBlock) w w'
set_option maxRecDepth 100000 in
set_option maxHeartbeats 8000000 in
theorem writePs_any (p sp dp most m nb n c1 : Nat) (A : Option Addr) (dv : Value) (ob : Option Nat) (c : CSt) (s : PrS) (x : List UInt8) (w : World) (h : PsAt w nb p sp dp most m dv ob c s)
    (hc : c.ok most) (hok : s.ok m most) (hll : s.last.length ≤ 1000000) (hm1 : 1 ≤ most) (hl : most ≤ 65536) (hm : m ≤ 65536) (hn : n = x.length) (hx : n ≤ 4096) (hc1 : n ≤ c1) (hcm : c1 ≤ 9223372036854775807) (hr : Rd w (fun k => k < w.heap.size ∧ ¬ ChL sp dp ob k) A x)
    (hT : FTabs w) (hL : FLow nb) (hnb : nb ≤ w.heap.size) (hnp : nb ≤ p ∧ nb ≤ sp ∧ nb ≤ dp) :
    Calls Tryz.prog 17 #[.pointer (some ⟨p, 0, none⟩), .slice A n c1] w (WroteP nb p most m sp dp dv ob c s x w) := by
  have hnone := Lib.hid (pNone_no p most w (h.pr.cell 5) hm1)
  have hb1 : Below w.heap.size w (w.alloc (.cells #[.slice none 0 0] 24)) := (Below.refl _ _).alloc (Nat.le_refl _) _
  have kT := Has.new w 24 #[.slice none 0 0]
  have z1 : (w.alloc (.cells #[.slice none 0 0] 24)).heap.size = w.heap.size + 1 := by simp
  have hcut := Lib.hid (cutPs_any A x n c1 (w.alloc (.cells #[.slice none 0 0] 24)) hn hc1 hcm hx (fun h0 => by obtain ⟨ad, h1, _⟩ := hr (by omega); exact ⟨ad, h1⟩))
  have hh := Lib.hid h
  have hr' := Lib.hid hr
  have hT' := Lib.hid hT
  have hn' := Lib.hid hn
  have hb1' := Lib.hid hb1
  have hlt := Lib.hid (fun k (hk : ChP sp dp p ob dv.ownBlock k) => ChP.lt h hk)
  clear h hr hT hn hb1
  refine (callsIn_wide (n := 5)).1 ?_
  refine callsIn_of_wp_marks Tryz.func17 rfl trivial ?_ rfl
  refine wpIn_wide.2 ?_
  simp only [Tryz.ntmps17, List.size_toArray, List.length_cons, List.length_nil, Nat.reduceAdd, Nat.reduceSub, Array.replicate_succ, Array.replicate_zero, List.push_toArray, List.append_toArray, List.nil_append, List.cons_append]
  go_wp2_with (first
    | (go_at_call 29; (with_reducible refine Calls.mono hnone.out ?_); rintro e w' ⟨rfl, rfl⟩)
    | (go_at_call 23; (with_reducible refine Calls.mono hcut.out ?_); rintro e w2 ⟨hb2, PA, pc, rfl, hp2⟩; have hb2' := Lib.hid hb2; have hp2' := Lib.hid hp2; have hme := Lib.hid (rfl : (pcs x).length = (pcs x).length); clear hb2 hp2)
    | (go_at_call 26; (with_reducible refine Calls.mono (comePs_any p PA (pcs x).length pc _) ?_); rintro e w3 ⟨rfl, hw3⟩))
  have z1' : (w.alloc (.cells #[.slice none 0 0] 24)).heap.size = w.heap.size + 1 := by simp
  have z2 := hb2'.out.size
  rw [z1'] at z2
  have hB2 : Below w.heap.size w w2 := hb1'.out.trans (hb2'.out.mono (by omega))
  have kT2 := kT.below hb2'.out kT.lt
  have hseq := come_seq 4 (by omega) p sp dp most m nb pc PA A dv ob c s x (· = w.heap.size) w2 (hh.out.below hB2) hc hok hll hm1 hl hm (by have := hn'.out; omega) ((hr'.out.kept (fun k hk => hB2.block k hk.1)).mono (fun k hk => ⟨Nat.lt_of_lt_of_le hk.1 hB2.size, hk.2⟩))
    (fun k y hy => by obtain ⟨e1, g, cs, h1, _, h3, h4, h5⟩ := hp2'.out k y hy; exact ⟨e1, g, cs, h1, h3, h4, h5⟩) (hT'.out.kept hL (fun k hk => hB2.block k (by omega))) hL (by omega) hnp
    (fun k hk => ⟨by omega, by omega, fun e => by have := hlt.out p (.inr (.inl rfl)); omega, fun h => by have := hlt.out _ (.inl h); omega, fun h => by have := hlt.out _ (.inr (.inr h)); omega⟩)
  have hb23 : Below w2.heap.size w2 (ComeW p PA (pcs x).length pc w2) := by
    unfold ComeW
    exact ((((Below.refl _ _).alloc (Nat.le_refl _) _).alloc (by simp) _).alloc (by simp; omega) _).alloc (by simp; omega) _
  obtain ⟨w4, hw4⟩ : ∃ w4, ComeW p PA (pcs x).length pc w2 = w4 := ⟨_, rfl⟩
  rw [hw4] at hseq hb23 ⊢
  clear hw3 hw4
  have z4 := hb23.size
  have kT4' := Lib.hid (kT2.below hb23 kT2.lt)
  have hB4' := Lib.hid (hB2.trans (hb23.mono (by omega)))
  have hseq' := Lib.hid hseq
  have hcnt' := Lib.hid (show (stepsP m s (fieldsL (stepC most c x).1)).2.length ≤ 1000000 by
    have h1 := stepsP_count m (fieldsL (stepC most c x).1) s
    have h2 := fieldsL_count (stepC most c x).1
    have h3 := stepC_count (most := most) c x
    have h4 : c.ws.length ≤ 3 := by obtain ⟨vb, _, _, a3, _⟩ := hh.out.spl; exact a3.len
    have := hn'.out
    omega)
  have z4' : w.heap.size < w4.heap.size := by omega
  clear hseq hB2 kT2 hb23 hnone hcut hh hr' hT' hb1' hb2' hp2' hme kT z1 z1' z2 z4
  refine (wpIn_wide (n := 5)).1 ?_
  refine wpIn_range_gather (gf := 59) (lb := #[.pointer (some ⟨w2.heap.size + 3, 0, none⟩), .pointer (some ⟨w2.heap.size + 2, 0, none⟩)]) rfl (enters_of Tryz.func59 (by kernel_rfl) rfl)
    hseq'.out (Below.refl _ _) (fun _ => rfl) (fun k hk => by have := hlt.out k hk; omega) (ToldI w (ChP sp dp p ob dv.ownBlock)) (fun _ _ _ _ => False)
    (fun n1 pre X Y hs he => hs.eff he z4' hlt.out) (fun _ _ _ _ _ h _ => h) (fun X l o o' hf h1 h2 => hf.putNon o' h1 h2)
    (fun n1 hn1 => ⟨⟨_, kT4'.out, sds_nil _ _⟩, .of_below hB4'.out, by omega⟩)
    (AxB ?Fa 40 (fun y : Nat × Sd => sdC y.2)) (fun y a' W l o o' h h1 h2 => by
      obtain ⟨k, h3, h4⟩ := h
      exact ⟨k, h3, h4.putNon o' h1 h2⟩) ?assign ?body ?rest (fun _ _ _ _ _ _ _ h _ => h.elim)
  case assign =>
    intro l y W K hK
    have hK' := Lib.hid hK
    clear hK
    dsimp only [encS]
    unfold sdC
    gi_wp2
    obtain ⟨k, hk⟩ : ∃ k, W.heap.size = k := ⟨_, rfl⟩
    have hnew := Has.new W 40 (sdC y.2)
    unfold sdC at hnew
    rw [hk] at hnew ⊢
    refine hK'.out _ _ ((Below.refl _ _).alloc (Nat.le_refl _) _) ⟨k, ?_, hnew⟩
    rfl
  case body =>
    rintro l n1 pre y a' W hl ⟨r, hr⟩ hz1 hz2 hI ⟨k, rfl, hk⟩ hlen hsp
    obtain ⟨⟨v, mv, mL⟩, mC, mn⟩ := hI
    have c0 := mv.cell 0
    have hpl : (pre.map (·.2)).length + 1 ≤ 1099511627776 := by rw [List.length_map]; have := hcnt'.out; omega
    have hpm : (pre ++ [y]).map (·.2) = pre.map (·.2) ++ [y.2] := by simp
    obtain ⟨ls, hls⟩ : ∃ ls, pre.map (·.2) = ls := ⟨_, rfl⟩
    rw [hls] at mL hpl hpm
    obtain ⟨yd, hyd⟩ : ∃ yd, y.2 = yd := ⟨_, rfl⟩
    have hk : Has W k 40 (sdC y.2) := hk
    rw [hyd] at hk hpm
    have hpm' := Lib.hid hpm
    have hpl' := Lib.hid hpl
    unfold sdC at hk
    have d0 := hk.cell 0
    have d1 := hk.cell 1
    have d2 := hk.cell 2
    have d3 := hk.cell 3
    have d4 := hk.cell 4
    have hbl : Below W.heap.size W (W.alloc (.cells (sdC yd) 40)) := (Below.refl _ _).alloc (Nat.le_refl _) _
    have mL2 := Lib.hid (mL.below hbl)
    have mv2 := Lib.hid (mv.below hbl mv.lt)
    have mC2 := Lib.hid (mC.trans (.of_below hbl))
    have hnw := Lib.hid (Has.new W 40 (sdC yd))
    have hbl' := Lib.hid hbl
    unfold sdC at mL2 mv2 mC2 hbl'
    have hsp' := Lib.hid hsp
    clear mv mL mC hk hr hpl hpm hls hyd hlen hbl hsp
    gi_wp2_with (refine wpListIn_append_said rfl _ _ rfl rfl mL2.out _ yd rfl hnw.out hpl'.out (by rw [World.size_alloc]; omega) ?_; intro v6 w6 hL6 hg6; have kT6 : Has w6 w.heap.size _ _ := (hg6.block w.heap.size mv2.out.lt (fun e => by have := (mL2.out.own _ e.symm).1; omega)).trans mv2.out; have c6 := kT6.cell 0; have f6 := kT6.free 0; have kT6' := Lib.hid kT6; have hL6' := Lib.hid hL6; have hg6' := Lib.hid hg6; obtain ⟨A6, c7, rfl, _⟩ := hL6.shape; obtain ⟨m6, hm6⟩ : ∃ m, (ls ++ [yd]).length = m := ⟨_, rfl⟩; rw [hm6] at hL6' ⊢; have hm6' := Lib.hid hm6; clear kT6 hL6 hg6 hm6)
    have hz6 := hg6'.out.size
    rw [World.size_alloc] at hz6
    refine ⟨(((KeepsOthers.alloc _ _).trans (others_said mL2.out hg6'.out)).trans (KeepsOthers.setCell _ _ _)).from _, keepO_said hbl'.out mL2.out hg6'.out (.inl rfl) (Nat.le_refl _) hz2, ⟨_, by simpa using kT6'.out.put 0 (.slice A6 m6 c7), ?_⟩, ?_, mn⟩
    · rw [hpm'.out]
      exact hL6'.out.kept (fun g e => Below.heap_setCell _ ⟨w.heap.size, 0, none⟩ _ g (fun (h : g = w.heap.size) => by have := (hL6'.out.own g e).1; omega))
    · exact (mC2.out.grownBy hg6'.out (fun g e => by have := (mL2.out.own g e).1; omega)).setNew (Nat.le_refl _) _ _
  case rest =>
    rintro D n1 xs W hD hS ⟨⟨v, mv, mL⟩, mC, mn⟩ hF hDn
    have hS : xs = numS 0 (stepsP m s (fieldsL (stepC most c x).1)).2 := hS
    rw [hS, numS_snd] at mL
    clear hS
    obtain ⟨A6, c6, rfl, _⟩ := mL.shape
    have c0 := mv.cell 0
    obtain ⟨m6, hm6⟩ : ∃ q, (stepsP m s (fieldsL (stepC most c x).1)).2.length = q := ⟨_, rfl⟩
    rw [hm6] at c0
    have mL' : Hid (Sds W n1 (.slice A6 m6 c6) (stepsP m s (fieldsL (stepC most c x).1)).2) := Lib.hid (by rw [← hm6]; exact mL)
    have mC' := Lib.hid mC
    have hF' := Lib.hid hF
    have hDn' := Lib.hid hDn
    clear mv mL mC hF hDn hm6
    go_wp2
    refine ⟨by simp, .inl ⟨_, _, rfl, run_takeDeferred hDn'.out, ?_⟩⟩
    refine ⟨_, results_tmp2 (t := 4) (u := 5) rfl _ _ _, ?_⟩
    obtain ⟨dv', ob', g1, g2, g3, g4, g5, g6⟩ := hF'.out.putNon (.deferred none) hDn'.out rfl
    refine ⟨.slice A6 m6 c6, dv', ob', rfl, ?_, ⟨g1, g2, g3, g4⟩, fun k hk => (g5 k hk).imp id (fun h => by omega), fun k hk => (g6 k hk).imp id (fun h => by omega), mC'.out.putObj D _ (by omega)⟩
    have h := mL'.out.kept (W' := W.putObj D (.deferred none)) (fun g hg => by obtain ⟨_, _, hh⟩ := mL'.out.own g hg; exact (hh.putNon _ hDn'.out rfl).trans hh.symm)
    refine ⟨h.1, ?_⟩
    rcases h.2 with h | ⟨g, cap, cur, e, hb, r⟩
    · exact .inl h
    · exact .inr ⟨g, cap, cur, e, by omega, r⟩
end Go.Proofs.YtlcfpnegpihicaaGreatDoor

namespace Go.Proofs.YtlcfpnegpihicaaGreatDoor
open Go.RowKit Go.Shelf
attribute [local go_sem] Oper.semAt_some
attribute [local go_sem] wide_fn wide_depth wide_round

/-! ## A parser of a law's own; Of -/
/-- A parser all of whose blocks lie from B on. -/
def PrO (W : World) (B p most m : Nat) (c : CSt) (s : PrS) : Prop := ∃ sp dp dv ob, PsAt W B p sp dp most m dv ob c s ∧ B ≤ p ∧ B ≤ sp ∧ B ≤ dp
theorem PrO.below {W W' : World} {B p most m : Nat} {c : CSt} {s : PrS} (h : PrO W B p most m c s) (hb : Below W.heap.size W W') : PrO W' B p most m c s := by
  obtain ⟨sp, dp, dv, ob, h1, h2⟩ := h
  exact ⟨sp, dp, dv, ob, h1.below hb, h2⟩
theorem MadeP.own {B l m p : Nat} {w w' : World} (h : MadeP B l m w p w') (hB : B ≤ w.heap.size) : PrO w' B p l m init0 (prNew []) := by
  obtain ⟨sp, dp, h1, h2, h3, h4, h5, h6⟩ := h
  exact ⟨sp, dp, .slice none 0 0, none, ⟨h4, bs_nil _ _, h5, fun g hg => by cases hg⟩, by omega, by omega, by omega⟩
theorem Sds.chg {W W' : World} {n0 nb p sp dp most m : Nat} {dv : Value} {ob : Option Nat} {v : Value} {l : List Sd} {c : CSt} {s : PrS} (h : Sds W n0 v l) (hs : PsAt W nb p sp dp most m dv ob c s) (hc : Chg (ChP sp dp p ob dv.ownBlock) W W') : Sds W' n0 v l := h.kept fun g hg => by
  obtain ⟨_, _, hh⟩ := h.own g hg
  obtain ⟨b1, b2, ⟨vb, a1, a2, a3, a4⟩, _⟩ := hs
  obtain ⟨_, hd⟩ := a3.typed
  refine hc.block g hh.lt (fun hk => ?_)
  rcases hk with (hk | hk | hk) | hk | hk
  · exact hh.apart a1 (by decide) hk
  · exact hh.apart hd (by decide) hk
  · obtain ⟨_, _, h8⟩ := a2.own g (a4.trans hk)
    exact hh.apart h8 (by decide) rfl
  · exact hh.apart b1 (by decide) hk
  · obtain ⟨_, _, h8⟩ := b2.own g hk
    exact hh.apart h8 (by decide) rfl
theorem Sds.mono {W : World} {n0 n1 : Nat} {v : Value} {l : List Sd} (h : Sds W n0 v l) (hn : n1 ≤ n0) : Sds W n1 v l := by
  refine ⟨h.1, ?_⟩
  rcases h.2 with h | ⟨g, cap, cur, e, hb, r⟩
  · exact .inl h
  · exact .inr ⟨g, cap, cur, e, by omega, r⟩
/-- What bytes tell, and how it stands behind them. -/
def saysP (most m : Nat) (c : CSt) (s : PrS) (x : List UInt8) : List Sd := (stepsP m s (fieldsL (stepC most c x).1)).2
def nextP (most m : Nat) (c : CSt) (s : PrS) (x : List UInt8) : PrS := (stepsP m s (fieldsL (stepC most c x).1)).1
def WroteO (B p most m : Nat) (c : CSt) (s : PrS) (x : List UInt8) (w0 w : World) (e : Ending) (w' : World) : Prop :=
  ∃ v, e = .returned (.tuple #[v, .int .i64 0]) ∧ Sds w' w.heap.size v (saysP most m c s x) ∧ PrO w' B p most m (stepC most c x).2 (nextP most m c s x) ∧ Below B w0 w' ∧ ∀ n0 u l, Sds w0 n0 u l → Sds w' n0 u l
theorem writeO_any (B p most m : Nat) (c : CSt) (s : PrS) (x : List UInt8) (A : Option Addr) (n c1 : Nat) (w0 w : World) (hs : PrO w0 B p most m c s) (hb : Below w0.heap.size w0 w) (hc : c.ok most) (hok : s.ok m most) (hll : s.last.length ≤ 1000000) (hm1 : 1 ≤ most) (hl : most ≤ 65536) (hm : m ≤ 65536) (hn : n = x.length) (hc1 : n ≤ c1) (hcm : c1 ≤ 9223372036854775807) (hx : n ≤ 4096)
    (hr : Rd w (fun k => k < w.heap.size ∧ (k < B ∨ w0.heap.size ≤ k)) A x) (hT : FTabs w) (hL : FLow B) (hB : B ≤ w0.heap.size) :
    Calls Tryz.prog 17 #[.pointer (some ⟨p, 0, none⟩), .slice A n c1] w (WroteO B p most m c s x w0 w) := by
  obtain ⟨sp, dp, dv, ob, h1, h2, h3, h4⟩ := hs
  have hCB : ∀ k, ChP sp dp p ob dv.ownBlock k → B ≤ k ∧ k < w0.heap.size := fun k hk => by
    have hlt := ChP.lt h1 hk
    rcases hk with (rfl | rfl | hk) | rfl | hk
    · exact ⟨h3, hlt⟩
    · exact ⟨h4, hlt⟩
    · obtain ⟨_, _, _, l4⟩ := h1.spl.lt
      exact ⟨(l4 k hk).2.2.2, hlt⟩
    · exact ⟨h2, hlt⟩
    · exact ⟨(h1.data.own k hk).1, hlt⟩
  have hbs := hb.size
  refine (writePs_any p sp dp most m B n c1 A dv ob c s x w (h1.below hb) hc hok hll hm1 hl hm hn hx hc1 hcm (hr.mono (fun k hk => ⟨hk.1, fun hc => by have := hCB k (.inl hc); omega⟩)) hT hL (by omega) ⟨h2, h3, h4⟩).mono ?_
  rintro e w' ⟨v, dv', ob', rfl, g1, g2, _, _, g5⟩
  refine ⟨v, rfl, g1, ⟨sp, dp, dv', ob', g2, h2, h3, h4⟩, ?_, fun n0 u l hl => (hl.below hb).chg (h1.below hb) g5⟩
  exact (hb.trans (Below.refl _ _)).mono hB |>.trans (g5.below (fun k hk => (hCB k hk).1) (by omega))
def OfO (most m : Nat) (x : List UInt8) (w : World) (e : Ending) (w' : World) : Prop :=
  ∃ v, e = .returned (.tuple #[v, .int .i64 0]) ∧ Sds w' w.heap.size v (saysP most m init0 (prNew []) x) ∧ Below w.heap.size w w'
theorem prNil_ok (m most : Nat) : (prNew []).ok m most := prNew_ok sound_nil (fun c hc => by simp at hc)
set_option maxRecDepth 100000 in
theorem ofPs_yes (nb l m n c1 : Nat) (A : Option Addr) (x : List UInt8) (w : World) (h1 : 1 ≤ l) (h2 : l ≤ 65536) (h3 : 1 ≤ m) (h4 : m ≤ 65536) (hn : n = x.length) (hc1 : n ≤ c1) (hcm : c1 ≤ 9223372036854775807) (hx : n ≤ 4096) (hr : Rd w (· < w.heap.size) A x) (hG : GrT w) (hT : FTabs w) (hL : FLow w.heap.size) :
    Calls Tryz.prog 7 #[.int .i64 (l : Int), .int .i64 (m : Int), .slice A n c1] w (OfO l m x w) := by
  have hnew := Lib.hid (newPs_yes w.heap.size l m w hG h1 h2 h3 h4)
  have hn' := Lib.hid hn
  have hr' := Lib.hid hr
  have hT' := Lib.hid hT
  have hL' := Lib.hid hL
  clear hn hr hT hG hL
  go_enter Tryz.func7, Tryz.ntmps7
  go_wp2_with (go_at_call 12; (with_reducible refine Calls.mono hnew.out ?_); rintro e w1 ⟨p, rfl, hm⟩; have hm' := Lib.hid hm; have hb' := Lib.hid hm.choose_spec.choose_spec.2.2.2.2.2; clear hm)
  have z1 := hb'.out.size
  refine (writeO_any w.heap.size p l m init0 (prNew []) x A n c1 w1 w1 (hm'.out.own (Nat.le_refl _)) (Below.refl _ _) (init0_ok l) (prNil_ok m l) (Nat.zero_le _) h1 h2 h4 hn'.out hc1 hcm hx ((hr'.out.kept (Kept.below hb'.out (fun k hk => hk))).mono (fun k hk => by have hk : k < w.heap.size := hk; exact ⟨by omega, .inl hk⟩)) (hT'.out.kept hL'.out (fun k hk => hb'.out.block k hk)) hL'.out z1).mono ?_
  rintro e w2 ⟨v, rfl, g1, _, g3, _⟩
  have g1' := Lib.hid g1
  have g3' := Lib.hid g3
  clear g1 g3
  obtain ⟨A2, c2, rfl, _⟩ := g1'.out.shape
  obtain ⟨m2, hm2⟩ : ∃ m2, (saysP l m init0 (prNew []) x).length = m2 := ⟨_, rfl⟩
  rw [hm2]
  have g4 := g1'.out
  rw [hm2] at g4
  have g4' := Lib.hid g4
  clear g4 hm2
  go_wp2
  go_ret2
  exact ⟨_, rfl, g4'.out.mono z1, hb'.out.trans g3'.out⟩
end Go.Proofs.YtlcfpnegpihicaaGreatDoor

namespace Go.Proofs.YtlcfpnegpihicaaGreatDoor
open Go.RowKit Go.Shelf
attribute [local go_sem] Oper.semAt_some
attribute [local go_sem] wide_fn wide_depth wide_round

/-! ## Each -/
/-! ## A range over an iterator that writes nothing that was there -/
end Go.Proofs.YtlcfpnegpihicaaGreatDoor

namespace Go.Proofs.YtlcfpnegpihicaaGreatDoor
open Go.RowKit Go.Shelf
attribute [local go_sem] Oper.semAt_some
attribute [local go_sem] wide_fn wide_depth wide_round

/-! ## A range over what comes whose ways out meet -/
/-! ## The iterator of Each -/
end Go.Proofs.YtlcfpnegpihicaaGreatDoor
