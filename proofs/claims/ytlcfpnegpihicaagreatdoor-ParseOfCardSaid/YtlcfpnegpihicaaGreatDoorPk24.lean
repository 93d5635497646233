import Derived.Test.YtlcfpnegpihicaaGreatDoorPk23
import Derived.Test.YtlcfpnegpihicaaGreatDoorPk20
import Derived.Test.YtlcfpnegpihicaaGreatDoorPk19
import Derived.Test.YtlcfpnegpihicaaGreatDoorPk17
import Derived.Lib.SlBytesConst
namespace Go.Proofs.YtlcfpnegpihicaaGreatDoor
open Go.RowKit Go.Shelf
attribute [local go_sem] Oper.semAt_some

/-! ## The chapter's rows -/
/-- A list of what is said, in memory of its own. -/
def SdK (W : World) (A : Option Addr) (k c : Nat) (l : List Sd) : Prop := ∃ n0, Sds W n0 (.slice A k c) l
theorem SdK.below {W W' : World} {A : Option Addr} {k c : Nat} {l : List Sd} (h : SdK W A k c l) (hb : Below W.heap.size W W') : SdK W' A k c l := by
  obtain ⟨n0, h⟩ := h
  exact ⟨n0, h.below hb⟩
theorem Sds.named {W : World} {n0 : Nat} {v : Value} {l : List Sd} (h : Sds W n0 v l) : ∃ A c, v = .slice A l.length c ∧ SdK W A l.length c l := by
  obtain ⟨A, c, rfl, _⟩ := h.shape
  exact ⟨A, c, rfl, n0, h⟩
theorem SdK.at {W : World} {A : Option Addr} {k c : Nat} {l : List Sd} (h : SdK W A k c l) : SdAt W A l := by
  obtain ⟨n0, h⟩ := h
  obtain ⟨A', c', he, h'⟩ := h.shape
  injection he with e1 _ _
  rw [e1]; exact h'
theorem SdAt.lit {W : World} {k : Nat} {xs : List Sd} (h : Has W k 40 (sdsC xs).toArray) : SdAt W (some ⟨k, 0, none⟩) xs := fun i x hx => by
  obtain ⟨h1, h2, h3, h4, h5⟩ := sdsC_get xs i x hx
  exact ⟨k, rfl, h.lt, by rw [h.cell]; simpa using h1, by rw [h.cell]; simpa using h2, by rw [h.cell]; simpa using h3, by rw [h.cell]; simpa using h4, by rw [h.cell]; simpa using h5⟩
/-- The tables, all of which lie below w. -/
structure PsT0 (w : World) : Prop where
  f : FTabs w
  g : GrT w
  e : EvT w
  low : FLow w.heap.size
theorem FLow.up {a b : Nat} (h : FLow a) (hab : a ≤ b) : FLow b := by
  unfold FLow at *
  omega
theorem PsT0.below {w w' : World} (h : PsT0 w) (hb : Below w.heap.size w w') : PsT0 w' :=
  ⟨h.f.kept h.low (fun k hk => hb.block k hk), h.g.below hb, h.e.below hb, h.low.up hb.size⟩
theorem litP_fr (w : World) (l : List UInt8) (cs : Array Value) (fr : Nat × Nat) (hcs : (byts l).toArray = cs) : Rd (w.alloc (.cells cs 5 fr)) (fun k => k < (w.alloc (.cells cs 5 fr)).heap.size ∧ w.heap.size ≤ k) (some ⟨w.heap.size, 0, none⟩) l := fun _ => by
  refine ⟨_, rfl, by simp, fun j u hu => ?_⟩
  rw [add_zero_, Nat.zero_add, cell_of_row _ _ j cs _ fr (World.alloc_heap_new w _), ← hcs]
  simpa using hu
def OfLitP (ls : List Sd) (k : Nat) (w : World) (e : Ending) (w' : World) : Prop := ∃ A c, e = .returned (.tuple #[.slice A k c, .int .i64 0]) ∧ SdK w' A k c ls ∧ Below w.heap.size w w'
theorem ofP_lit (l m n k : Nat) (lit : List UInt8) (ls : List Sd) (cs : Array Value) (fr : Nat × Nat) (w : World) (hT : PsT0 w) (hls : saysP l m init0 (prNew []) lit = ls) (hk : ls.length = k) (hcs : (byts lit).toArray = cs) (hn : n = lit.length) (hl : lit.length ≤ 100) (h1 : 1 ≤ l) (h2 : l ≤ 65536) (h3 : 1 ≤ m) (h4 : m ≤ 65536) :
    Calls Tryz.prog 7 #[.int .i64 (l : Int), .int .i64 (m : Int), .slice (some ⟨w.heap.size, 0, none⟩) n n] (w.alloc (.cells cs 5 fr)) (OfLitP ls k w) := by
  have hb : Below w.heap.size w (w.alloc (.cells cs 5 fr)) := (Below.refl _ _).alloc (Nat.le_refl _) _
  have hT2 := hT.below hb
  refine (ofPs_yes 0 l m n n (some ⟨w.heap.size, 0, none⟩) lit _ h1 h2 h3 h4 hn (Nat.le_refl _) (by omega) (by omega) ((litP_fr w lit cs fr hcs).mono (fun k hk => hk.1)) hT2.g hT2.f hT2.low).mono ?_
  rintro e w' ⟨v, rfl, h1, h2⟩
  rw [hls] at h1
  obtain ⟨A, c, rfl, h3⟩ := h1.named
  rw [hk] at h3 ⊢
  exact ⟨A, c, rfl, h3, hb.trans (h2.mono hb.size)⟩
def WroteLitP (B p l m : Nat) (c' : CSt) (s' : PrS) (ls : List Sd) (k : Nat) (w : World) (e : Ending) (w' : World) : Prop :=
  ∃ A c, e = .returned (.tuple #[.slice A k c, .int .i64 0]) ∧ SdK w' A k c ls ∧ PrO w' B p l m c' s' ∧ Below B w w' ∧ (∀ A k c ls, SdK w A k c ls → SdK w' A k c ls)
theorem writeP_lit (B p l m n k : Nat) (c : CSt) (s : PrS) (lit : List UInt8) (ls : List Sd) (c' : CSt) (s' : PrS) (cs : Array Value) (fr : Nat × Nat) (w : World) (hs : PrO w B p l m c s) (hok : c.ok l) (hok2 : s.ok m l) (hll : s.last.length ≤ 1000000) (hT : FTabs w) (hL : FLow B) (hB : B ≤ w.heap.size)
    (hls : saysP l m c s lit = ls) (hc' : (stepC l c lit).2 = c') (hs' : nextP l m c s lit = s') (hk : ls.length = k) (hcs : (byts lit).toArray = cs) (hn : n = lit.length) (hl : lit.length ≤ 100) (h1 : 1 ≤ l) (h2 : l ≤ 65536) (h4 : m ≤ 65536) :
    Calls Tryz.prog 17 #[.pointer (some ⟨p, 0, none⟩), .slice (some ⟨w.heap.size, 0, none⟩) n n] (w.alloc (.cells cs 5 fr)) (WroteLitP B p l m c' s' ls k w) := by
  have hb : Below w.heap.size w (w.alloc (.cells cs 5 fr)) := (Below.refl _ _).alloc (Nat.le_refl _) _
  refine (writeO_any B p l m c s lit (some ⟨w.heap.size, 0, none⟩) n n w _ hs hb hok hok2 hll h1 h2 h4 hn (Nat.le_refl _) (by omega) (by omega) ((litP_fr w lit cs fr hcs).mono (fun k hk => ⟨hk.1, .inr hk.2⟩)) (hT.kept hL (fun k hk => hb.block k (by omega))) hL hB).mono ?_
  rintro e w' ⟨v, rfl, g1, g2, g3, g4⟩
  rw [hls] at g1
  rw [hc', hs'] at g2
  obtain ⟨A, cc, rfl, g5⟩ := g1.named
  rw [hk] at g5 ⊢
  exact ⟨A, cc, rfl, g5, g2, g3, fun A k c ls ⟨n0, h⟩ => ⟨n0, g4 _ _ _ h⟩⟩
def ResetO (B p l m : Nat) (id : List UInt8) (w : World) (e : Ending) (w' : World) : Prop :=
  e = .returned (.int .i64 0) ∧ PrO w' B p l m init0 (prNew id) ∧ Below B w w' ∧ (∀ A k c ls, SdK w A k c ls → SdK w' A k c ls)
theorem resetO_yes (B p l m : Nat) (c : CSt) (s : PrS) (id : List UInt8) (w : World) (hs : PrO w B p l m c s) (h1 : 1 ≤ l) (h2 : l ≤ 65536) (hid : id.length ≤ 1000000) (hT : EvT w) (hr : rightE (id, [], []) = true) (hB : B ≤ w.heap.size) :
    Calls Tryz.prog 15 #[.pointer (some ⟨p, 0, none⟩), .string ⟨id.toArray⟩] w (ResetO B p l m id w) := by
  obtain ⟨sp, dp, dv, ob, g1, g2, g3, g4⟩ := hs
  refine (resetPs_yes B p sp l m dv s id w g1.pr h1 h2 hid hT hr).mono ?_
  rintro e w' ⟨rfl, sp', dp', q1, q2, q3, q4, q5⟩
  refine ⟨rfl, ⟨sp', dp', .slice none 0 0, none, ⟨q3, bs_nil _ _, q4, fun g hg => by cases hg⟩, g2, by omega, by omega⟩, q5.below (fun k hk => by subst hk; exact g2) (by omega), fun A k c ls ⟨n0, h⟩ => ⟨n0, h.kept (fun g hg => ?_)⟩⟩
  obtain ⟨_, _, hh⟩ := h.own g hg
  exact q5.block g hh.lt (fun hk => hh.apart g1.pr (by decide) hk)
theorem sameSd_yes (A B : Option Addr) (xs : List Sd) (n c d : Nat) (w : World) (hn : n = xs.length) (hA : SdAt w A xs) (hB : SdAt w B xs) (hxs : ∀ x ∈ xs, SdOk x) (hl : n ≤ 1099511627776) :
    Calls Tryz.prog 10 #[.slice A n c, .slice B n d] w fun e w' => e = .returned (.bool true) ∧ Below w.heap.size w w' := by
  have := sameSd_any A B xs xs n n c d w hn hn hA hB hxs hxs hl hl
  rw [decide_eq_true rfl] at this
  exact this
theorem numPs_any (e : Int) (w : World) : Calls Tryz.prog 11 #[.int .i64 e] w fun r w' => r = .returned (.int .i64 e) ∧ w = w' := by
  go_enter Tryz.func11, Tryz.ntmps11
  go_wp2
  go_ret
  exact ⟨rfl, rfl⟩
theorem ofSd_any (a b c : ByteArray) (w : World) : Calls Tryz.prog 22 #[.string a, .string b, .string c] w fun r w' => r = .returned (.agg #[.int .i64 1, .string a, .string b, .string c, .int .u64 0]) ∧ Below w.heap.size w w' := by
  have hk := Has.new w 40 #[.int .i64 1, .string a, .string b, .string c, .int .u64 0]
  have x0 := hk.cell 0
  have x1 := hk.cell 1
  have x2 := hk.cell 2
  have x3 := hk.cell 3
  have x4 := hk.cell 4
  go_enter Tryz.func22, Tryz.ntmps22
  go_wp2
  exact bodyPost_ret (v := .agg #[.int .i64 1, .string a, .string b, .string c, .int .u64 0]) (by simp [results, Tryz.results22, go_sem, x0, x1, x2, x3, x4]) rfl ⟨rfl, (Below.refl _ _).alloc (Nat.le_refl _) _⟩
/-! The rows' values. -/
def wA : CSt := (stepC 99 init0 [100, 97, 116, 97, 58, 32, 120, 10]).2
def wB : CSt := (stepC 99 wA [10]).2
def wC : CSt := (stepC 99 init0 [100, 97, 116, 97, 10, 10]).2
def uA : PrS := nextP 99 99 init0 (prNew []) [100, 97, 116, 97, 58, 32, 120, 10]
def uB : PrS := nextP 99 99 wA uA [10]
theorem rp1 : saysP 99 99 init0 (prNew []) [105, 100, 58, 32, 49, 10, 100, 97, 116, 97, 58, 32, 97, 10, 100, 97, 116, 97, 58, 32, 98, 10, 10, 100, 97, 116, 97, 10, 10, 101, 118, 101, 110, 116, 58, 32, 116, 10, 10, 114, 101, 116, 114, 121, 58, 32, 53, 10] = [(1, ([49], [], [97, 10, 98]), 0), (1, ([49], [], []), 0), (2, ([], [], []), 5)] := by decide +kernel
theorem rp2 : saysP 99 2 init0 (prNew []) [100, 97, 116, 97, 58, 32, 97, 98, 99, 10, 10, 100, 97, 116, 97, 58, 32, 97, 10, 10] = [(3, ([], [], []), 0), (1, ([], [], [97]), 0)] := by decide +kernel
theorem rp3 : saysP 99 99 init0 (prNew []) [100, 97, 116, 97, 58, 32, 120, 10] = [] := by decide +kernel
theorem rp4 : saysP 99 99 wA uA [10] = [(1, ([], [], [120]), 0)] := by decide +kernel
theorem rp5 : saysP 99 99 init0 (prNew [55]) [100, 97, 116, 97, 10, 10] = [(1, ([55], [], []), 0)] := by decide +kernel
theorem rp6 : uB.last = [] := by decide +kernel
theorem rp7 : uA.last = [] := by decide +kernel
theorem okwA : wA.ok 99 := stepC_ok (init0_ok 99) _
theorem okuA : uA.ok 99 99 := by
  have h := stepC_good (init0_ok 99) [100, 97, 116, 97, 58, 32, 120, 10]
  refine stepsP_ok _ _ (prNil_ok 99 99) (fun f hf => ?_)
  unfold fieldsL at hf
  obtain ⟨y, hy, hyf⟩ := List.mem_filterMap.1 hf
  obtain ⟨g1, g2, g3, _⟩ := h y hy
  exact said_ok ⟨g1, g2, g3⟩ hyf
theorem ok7 : (prNew [55]).ok 99 99 := prNew_ok (by decide +kernel) (by decide)
theorem right7 : rightE ([55], [], []) = true := by unfold rightE cleanB soundB fitsE; decide +kernel
end Go.Proofs.YtlcfpnegpihicaaGreatDoor

namespace Go.Proofs.YtlcfpnegpihicaaGreatDoor
open Go.RowKit Go.Shelf
attribute [local go_sem] Oper.semAt_some

/-! ## Pieces: the mathematics -/
theorem flds_ok {most : Nat} {c : CSt} (hc : c.ok most) (x : List UInt8) : ∀ f ∈ fieldsL (stepC most c x).1, FldOk most f := fun f hf => by
  unfold fieldsL at hf
  obtain ⟨y, hy, hyf⟩ := List.mem_filterMap.1 hf
  obtain ⟨g1, g2, g3, _⟩ := stepC_good hc x y hy
  exact said_ok ⟨g1, g2, g3⟩ hyf
theorem nextP_ok {most m : Nat} {c : CSt} {s : PrS} (hc : c.ok most) (hs : s.ok m most) (x : List UInt8) : (nextP most m c s x).ok m most := stepsP_ok _ _ hs (flds_ok hc x)
theorem nextP_last {most m : Nat} {c : CSt} {s : PrS} (hc : c.ok most) (hl : most ≤ 65536) (hs : s.last.length ≤ 1000000) (x : List UInt8) : (nextP most m c s x).last.length ≤ 1000000 := stepsP_last hl _ _ hs (flds_ok hc x)
theorem saysP_append (most m : Nat) (c : CSt) (s : PrS) (x y : List UInt8) : saysP most m c s (x ++ y) = saysP most m c s x ++ saysP most m (stepC most c x).2 (nextP most m c s x) y := by
  unfold saysP nextP
  rw [stepC_append, fieldsL_append, stepsP_append]
theorem nextP_append (most m : Nat) (c : CSt) (s : PrS) (x y : List UInt8) : nextP most m c s (x ++ y) = nextP most m (stepC most c x).2 (nextP most m c s x) y := by
  unfold nextP
  rw [stepC_append, fieldsL_append, stepsP_append]
theorem saysP_nil {most m : Nat} {c : CSt} (hc : c.ok most) (s : PrS) : saysP most m c s [] = [] := by
  unfold saysP
  rw [stepC_nil hc]
  rfl
theorem nextP_nil {most m : Nat} {c : CSt} (hc : c.ok most) (s : PrS) : nextP most m c s [] = s := by
  unfold nextP
  rw [stepC_nil hc]
  rfl
theorem saysP_count {most m : Nat} (c : CSt) (s : PrS) (x : List UInt8) : (saysP most m c s x).length ≤ 3 * (c.ws.length + x.length) := by
  have h1 := stepsP_count m (fieldsL (stepC most c x).1) s
  have h2 := fieldsL_count (stepC most c x).1
  have h3 := stepC_count (most := most) c x
  unfold saysP
  omega
theorem stepsP_sd {most line : Nat} (hm : most ≤ 65536) (hl : line ≤ 65536) : ∀ (fs : List FdT) (s : PrS), s.ok most line → s.last.length ≤ 1000000 → (∀ f ∈ fs, FldOk line f) → ∀ x ∈ (stepsP most s fs).2, SdOk x
  | [], _, _, _, _, x, hx => by simp [stepsP] at hx
  | f :: r, s, h, hll, hf, x, hx => by
    simp only [stepsP, List.mem_append] at hx
    rcases hx with hx | hx
    · exact (doP_said h hm hl hll (by simpa using hx)).1
    · exact stepsP_sd hm hl r _ (doP_ok h (hf f (by simp))) (doP_last (hf f (by simp)) hl hll) (fun g hg => hf g (by simp [hg])) x hx
theorem saysP_sd {most m : Nat} {c : CSt} {s : PrS} (hc : c.ok most) (hs : s.ok m most) (hl : most ≤ 65536) (hm : m ≤ 65536) (hll : s.last.length ≤ 1000000) (x : List UInt8) : ∀ y ∈ saysP most m c s x, SdOk y := stepsP_sd hm hl _ _ hs hll (flds_ok hc x)
theorem saysP_right {most m : Nat} {c : CSt} {s : PrS} (hc : c.ok most) (hs : s.ok m most) (hm : m ≤ 65536) (x : List UInt8) : ∀ y ∈ saysP most m c s x, y.1 = 1 → rightE y.2.1 = true ∧ sumE y.2.1 ≤ m := stepsP_right hm _ _ hs (flds_ok hc x)
/-- The bytes up to i and q more. -/
theorem take_cutP (bs : List UInt8) (i q : Nat) : bs.take (i + q) = bs.take i ++ (bs.drop i).take q := by
  rw [List.take_add]
theorem saysP_more (most m : Nat) (bs : List UInt8) (i q : Nat) : saysP most m init0 (prNew []) (bs.take (i + q)) = saysP most m init0 (prNew []) (bs.take i) ++ saysP most m (stepC most init0 (bs.take i)).2 (nextP most m init0 (prNew []) (bs.take i)) ((bs.drop i).take q) := by
  rw [take_cutP, saysP_append]
theorem nextP_more (most m : Nat) (bs : List UInt8) (i q : Nat) : nextP most m init0 (prNew []) (bs.take (i + q)) = nextP most m (stepC most init0 (bs.take i)).2 (nextP most m init0 (prNew []) (bs.take i)) ((bs.drop i).take q) := by
  rw [take_cutP, nextP_append]
theorem stepC_moreP (most : Nat) (bs : List UInt8) (i q : Nat) : (stepC most init0 (bs.take (i + q))).2 = (stepC most (stepC most init0 (bs.take i)).2 ((bs.drop i).take q)).2 := by
  rw [take_cutP, stepC_append]

/-! ## Lists of what is said, one behind another -/
theorem sdsC_split : ∀ (x : List Sd) (j : Nat) (u : Value), (sdsC x)[j]? = some u → ∃ i y, x[i]? = some y ∧ ((j = i * 5 ∧ u = .int .i64 y.1) ∨ (j = i * 5 + 1 ∧ u = .string ⟨y.2.1.1.toArray⟩) ∨ (j = i * 5 + 2 ∧ u = .string ⟨y.2.1.2.1.toArray⟩) ∨ (j = i * 5 + 3 ∧ u = .string ⟨y.2.1.2.2.toArray⟩) ∨ (j = i * 5 + 4 ∧ u = .int .u64 y.2.2))
  | [], j, u, h => by simp [sdsC] at h
  | y :: r, 0, u, h => by
    refine ⟨0, y, rfl, .inl ⟨rfl, ?_⟩⟩
    simpa [sdsC, sdC] using h.symm
  | y :: r, 1, u, h => by
    refine ⟨0, y, rfl, .inr (.inl ⟨rfl, ?_⟩)⟩
    simpa [sdsC, sdC] using h.symm
  | y :: r, 2, u, h => by
    refine ⟨0, y, rfl, .inr (.inr (.inl ⟨rfl, ?_⟩))⟩
    simpa [sdsC, sdC] using h.symm
  | y :: r, 3, u, h => by
    refine ⟨0, y, rfl, .inr (.inr (.inr (.inl ⟨rfl, ?_⟩)))⟩
    simpa [sdsC, sdC] using h.symm
  | y :: r, 4, u, h => by
    refine ⟨0, y, rfl, .inr (.inr (.inr (.inr ⟨rfl, ?_⟩)))⟩
    simpa [sdsC, sdC] using h.symm
  | y :: r, j + 5, u, h => by
    have h2 : (sdsC r)[j]? = some u := by simpa [sdsC, sdC] using h
    obtain ⟨i, z, hz, hc⟩ := sdsC_split r j u h2
    refine ⟨i + 1, z, by simpa using hz, ?_⟩
    rcases hc with ⟨e, hu⟩ | ⟨e, hu⟩ | ⟨e, hu⟩ | ⟨e, hu⟩ | ⟨e, hu⟩
    · exact .inl ⟨by omega, hu⟩
    · exact .inr (.inl ⟨by omega, hu⟩)
    · exact .inr (.inr (.inl ⟨by omega, hu⟩))
    · exact .inr (.inr (.inr (.inl ⟨by omega, hu⟩)))
    · exact .inr (.inr (.inr (.inr ⟨by omega, hu⟩)))
theorem sdsC_length : ∀ (l : List Sd), (sdsC l).length = l.length * 5
  | [] => rfl
  | _ :: r => by
    have := sdsC_length r
    show (sdsC r).length + 1 + 1 + 1 + 1 + 1 = _
    rw [this, List.length_cons]; omega
set_option maxRecDepth 100000 in
theorem run_append_sds {w : World} {n0 : Nat} {v : Value} {l : List Sd} (hv : Sds w n0 v l) (A : Option Addr) (x : List Sd) (c : Nat) (hx : SdAt w A x) (hs : l.length + x.length ≤ 1000000000) (hn : n0 ≤ w.heap.size) (ty : TypeId) :
    ∃ v' w', (Builtin.append_ #[24, 24] ty #[v, .slice A x.length c]).run Tryz.prog w = .ok v' w' ∧ Sds w' n0 v' (l ++ x) ∧ w.grownBy w' v.ownBlock := by
  obtain ⟨i, hi, hz, hz1, hz2⟩ := info_parts infoSaid
  have nothing : x = [] → ∃ v' w', (Builtin.append_ #[24, 24] ty #[v, .slice A x.length c]).run Tryz.prog w = .ok v' w' ∧ Sds w' n0 v' (l ++ x) ∧ w.grownBy w' v.ownBlock := by
    rintro rfl
    have hl : Sds w n0 v (l ++ []) := by rw [List.append_nil]; exact hv
    have hg : w.grownBy w v.ownBlock := ⟨rfl, rfl, rfl, Nat.le_refl _, fun _ _ _ => rfl⟩
    rcases hv.2 with ⟨rfl, h0⟩ | ⟨g, cap, cur, rfl, hb, hh, hnc, hcm, _⟩
    · refine ⟨_, w, ?_, hl, hg⟩
      cases A <;> simp [Builtin.append_, run_underlying Tryz.underlying24, sizeOf, typeInfo, hi, Builtin.lenOf, Builtin.firstCells]
      all_goals
        have h0 := run_loadCells_list (P := Tryz.prog) w ‹Addr› [] (by simp)
        simp only [List.length_nil] at h0
        simp [h0]
    · refine ⟨_, w, ?_, hl, hg⟩
      cases A <;> simp [Builtin.append_, run_underlying Tryz.underlying24, sizeOf, typeInfo, hi, Builtin.lenOf, Builtin.firstCells, hnc, storeCells]
      all_goals
        have h0 := run_loadCells_list (P := Tryz.prog) w ‹Addr› [] (by simp)
        simp only [List.length_nil] at h0
        simp [h0, storeCells]
  rcases Nat.eq_zero_or_pos x.length with h0 | h0
  · exact nothing (List.eq_nil_of_length_eq_zero h0)
  · obtain ⟨g, rfl, _, _⟩ := hx 0 x[0] (List.getElem?_eq_getElem h0)
    have hc : ∀ j u, (sdsC x)[j]? = some u → w.cell? ((⟨g, 0, none⟩ : Addr).add j) = some u := fun j u hu => by
      obtain ⟨i, y, hy, hh⟩ := sdsC_split x j u hu
      obtain ⟨g', he, _, h1, h2, h3, h4, h5⟩ := hx i y hy
      obtain rfl : g = g' := by injection he with he; injection he
      rw [add_zero_, Nat.zero_add]
      rcases hh with ⟨rfl, rfl⟩ | ⟨rfl, rfl⟩ | ⟨rfl, rfl⟩ | ⟨rfl, rfl⟩ | ⟨rfl, rfl⟩
      · exact h1
      · exact h2
      · exact h3
      · exact h4
      · exact h5
    obtain ⟨v', w', hrun, h2, h3, _, _⟩ := run_append_own_at (P := Tryz.prog) w n0 24 ty 40 i (.agg #[.int .i64 0, .string ⟨#[]⟩, .string ⟨#[]⟩, .string ⟨#[]⟩, .int .u64 0]) 5 64 Tryz.underlying24 hi hz hz1 hz2 rfl (by decide) v l.length (sdsC l) hv ⟨g, 0, none⟩ x.length c (sdsC x) (sdsC_length x) hc (sdsC_one x) (by simp only [maxLen]; omega) (by omega) hn
    refine ⟨v', w', hrun, ?_, h3⟩
    unfold Sds
    rw [List.length_append, sdsC_append]
    exact h2
theorem wpList_append_sds {w : World} {ops : Array Oper} {rest : List Oper} {o : Oper} {a : Act} {Q : Exit → Act → World → Prop} {n0 : Nat} {v : Value} {l : List Sd} (hgd : o.guard = none) (s x : Operand) (ho : o.op = .call { callee := .builtin .append, args := #[s, x], argTypes := #[24, 24] }) (hsv : a.eval s = v) (hv : Sds w n0 v l)
    (A : Option Addr) (y : List Sd) (m c : Nat) (hm : m = y.length) (hxv : a.eval x = .slice A m c) (hx : SdAt w A y) (hs : l.length + y.length ≤ 1000000000) (hn : n0 ≤ w.heap.size)
    (h : ∀ v' w', Sds w' n0 v' (l ++ y) → w.grownBy w' v.ownBlock → wpList Tryz.prog ops Q rest (a.put o.dst v') w') : wpList Tryz.prog ops Q (o :: rest) a w := by
  subst hm
  refine wpList_plain hgd fun K hK => ?_
  obtain ⟨v', w', hrun, h2, h3⟩ := run_append_sds hv A y c hx hs hn o.type
  unfold Oper.wp execOp
  simp only [ho, resolve, invoke, builtin, Sem.run_bind, Sem.run_pure, Result.andThen_ok, List.map_toArray, List.map_cons, List.map_nil, hsv, hxv, hrun]
  exact hK _ _ (h v' w' h2 h3)
/-! ## What a parser of a law's own waits for -/
theorem waitsO_any (B p most m : Nat) (c : CSt) (s : PrS) (w : World) (hs : PrO w B p most m c s) (h1 : 1 ≤ most) (hok : s.ok m most) (hl : most ≤ 65536) (hm : m ≤ 65536) : Calls Tryz.prog 19 #[.pointer (some ⟨p, 0, none⟩)] w fun e w' => ∃ q : Nat, q ≤ m + 2 * most + 2 ∧ e = .returned (.int .i64 (q : Int)) ∧ Below w.heap.size w w' := by
  obtain ⟨sp, dp, dv, ob, g1, g2, g3, g4⟩ := hs
  have hw := hok.waits
  refine (waitsPs_any B p sp most m dv s w g1.pr g1.data h1 (by omega) (by omega)).mono ?_
  rintro e w' ⟨rfl, hb⟩
  exact ⟨_, hw, rfl, hb⟩
end Go.Proofs.YtlcfpnegpihicaaGreatDoor

namespace Go.Proofs.YtlcfpnegpihicaaGreatDoor
open Go.RowKit Go.Shelf
attribute [local go_sem] Oper.semAt_some

/-! ## works -/
theorem belowP_at {B : Nat} {a b c : World} (h : Below B a b) (k : Below b.heap.size b c) (hB : B ≤ b.heap.size) : Below B a c := h.trans (k.mono hB)
set_option maxRecDepth 100000 in
set_option maxHeartbeats 4000000 in
theorem worksPs_any (w : World) (hT : PsT0 w) : Calls Tryz.prog 6 #[] w fun e w' => e = .returned (.bool true) ∧ Below w.heap.size w w' := by
  have hT' := Lib.hid hT
  clear hT
  have hcc := fun (w : World) (C : Array Value) (n c : Nat) => Lib.run_convert_bytes_const (P := Tryz.prog) w 22 5 C n c Tryz.underlying22 Tryz.underlying5
  go_enter Tryz.func6, Tryz.ntmps6
  go_wp2_with fail
  refine (ofP_lit 99 99 48 3 [105, 100, 58, 32, 49, 10, 100, 97, 116, 97, 58, 32, 97, 10, 100, 97, 116, 97, 58, 32, 98, 10, 10, 100, 97, 116, 97, 10, 10, 101, 118, 101, 110, 116, 58, 32, 116, 10, 10, 114, 101, 116, 114, 121, 58, 32, 53, 10] _ _ _ w hT'.out rp1 rfl rfl rfl (by decide) (by decide) (by decide) (by decide) (by decide)).mono ?_
  rintro e w1 ⟨A1, c1, rfl, l1, hb1⟩
  have l1' := Lib.hid l1
  have hb1' := Lib.hid hb1
  have z1 := hb1.size
  clear l1 hb1
  go_wp2_with fail
  refine (ofP_lit 99 2 20 2 [100, 97, 116, 97, 58, 32, 97, 98, 99, 10, 10, 100, 97, 116, 97, 58, 32, 97, 10, 10] _ _ _ w1 (hT'.out.below hb1'.out) rp2 rfl rfl rfl (by decide) (by decide) (by decide) (by decide) (by decide)).mono ?_
  rintro e w2 ⟨A2, c2, rfl, l2, hb2⟩
  have l12 := Lib.hid (l1'.out.below hb2)
  have l2' := Lib.hid l2
  have hb2' := Lib.hid (belowP_at hb1'.out hb2 z1)
  have z2 := hb2'.out.size
  clear l2 hb2 l1' hb1'
  go_wp2_with fail
  refine (newPs_yes w.heap.size 99 99 w2 (hT'.out.below hb2'.out).g (by decide) (by decide) (by decide) (by decide)).mono ?_
  rintro e w3 ⟨p, rfl, hm⟩
  have hb3 := hm.choose_spec.choose_spec.2.2.2.2.2
  have hs3' := Lib.hid (hm.own z2)
  have l13 := Lib.hid (l12.out.below hb3)
  have l23 := Lib.hid (l2'.out.below hb3)
  have hb3' := Lib.hid (belowP_at hb2'.out hb3 z2)
  have z3 := hb3'.out.size
  clear hm hb3 l12 l2' hb2'
  go_wp2_with fail
  refine (writeP_lit w.heap.size p 99 99 8 0 init0 (prNew []) [100, 97, 116, 97, 58, 32, 120, 10] _ wA uA _ _ w3 hs3'.out (init0_ok 99) (prNil_ok 99 99) (Nat.zero_le _) (hT'.out.below hb3'.out).f hT'.out.low z3 rp3 rfl rfl rfl rfl rfl (by decide) (by decide) (by decide) (by decide)).mono ?_
  rintro e w4 ⟨A4, c4, rfl, _, hs4, hb4, k4⟩
  have l14 := Lib.hid (k4 _ _ _ _ l13.out)
  have l24 := Lib.hid (k4 _ _ _ _ l23.out)
  have hs4' := Lib.hid hs4
  have hb4' := Lib.hid (hb3'.out.trans hb4)
  have z4 := hb4'.out.size
  clear hs4 hb4 k4 l13 l23 hs3' hb3'
  go_wp2_with fail
  refine (writeP_lit w.heap.size p 99 99 1 1 wA uA [10] _ wB uB _ _ w4 hs4'.out okwA okuA (by rw [rp7]; exact Nat.zero_le _) (hT'.out.below hb4'.out).f hT'.out.low z4 rp4 rfl rfl rfl rfl rfl (by decide) (by decide) (by decide) (by decide)).mono ?_
  rintro e w5 ⟨A5, c5, rfl, l5, hs5, hb5, k5⟩
  have l15 := Lib.hid (k5 _ _ _ _ l14.out)
  have l25 := Lib.hid (k5 _ _ _ _ l24.out)
  have l5' := Lib.hid l5
  have hs5' := Lib.hid hs5
  have hb5' := Lib.hid (hb4'.out.trans hb5)
  have z5 := hb5'.out.size
  clear l5 hs5 hb5 k5 l14 l24 hs4' hb4'
  go_wp2_with fail
  have hla : Hid (Calls Tryz.prog 18 #[.pointer (some ⟨p, 0, none⟩)] w5 fun e w' => e = .returned (.string ⟨#[]⟩) ∧ w5 = w') := Lib.hid (by
    obtain ⟨sp, dp, dv, ob, h1, _⟩ := hs5'.out
    have h := lastId_any p sp 99 99 dv uB w5 h1.pr (by decide)
    rw [rp6] at h
    exact h)
  refine hla.out.mono ?_
  rintro e w' ⟨rfl, rfl⟩
  clear hla
  go_wp2_with fail
  refine (resetO_yes w.heap.size p 99 99 wB uB [55] w5 hs5'.out (by decide) (by decide) (by decide) (hT'.out.below hb5'.out).e right7 z5).mono ?_
  rintro e w6 ⟨rfl, hs6, hb6, k6⟩
  have l16 := Lib.hid (k6 _ _ _ _ l15.out)
  have l26 := Lib.hid (k6 _ _ _ _ l25.out)
  have l56 := Lib.hid (k6 _ _ _ _ l5'.out)
  have hs6' := Lib.hid hs6
  have hb6' := Lib.hid (hb5'.out.trans hb6)
  have z6 := hb6'.out.size
  clear hs6 hb6 k6 l15 l25 l5' hs5' hb5'
  go_wp2_with fail
  refine (writeP_lit w.heap.size p 99 99 6 1 init0 (prNew [55]) [100, 97, 116, 97, 10, 10] _ _ _ _ _ w6 hs6'.out (init0_ok 99) ok7 (by decide) (hT'.out.below hb6'.out).f hT'.out.low z6 rp5 rfl rfl rfl rfl rfl (by decide) (by decide) (by decide) (by decide)).mono ?_
  rintro e w7 ⟨A7, c7, rfl, l7, _, hb7, k7⟩
  have l17 := Lib.hid (k7 _ _ _ _ l16.out)
  have l27 := Lib.hid (k7 _ _ _ _ l26.out)
  have l57 := Lib.hid (k7 _ _ _ _ l56.out)
  have l7' := Lib.hid l7
  have hb7' := Lib.hid (hb6'.out.trans hb7)
  have z7 := hb7'.out.size
  clear l7 hb7 k7 l16 l26 l56 hs6' hb6' hcc
  go_wp2_with (go_at_call 11; (with_reducible refine Calls.mono (numPs_any _ _) ?_); rintro e w' ⟨rfl, rfl⟩)
  have lAw7 := Lib.hid l17.out
  have lBw7 := Lib.hid l27.out
  have lDw7 := Lib.hid l57.out
  have lXw7 := Lib.hid l7'.out
  have hbw7 := Lib.hid hb7'.out
  have zw7 := z7
  clear l17 l27 l57 l7' hb7' z7
  refine (ofSd_any ⟨#[49]⟩ ⟨#[]⟩ ⟨#[97, 10, 98]⟩ w7).mono ?_
  rintro e w8 ⟨rfl, hbx⟩
  have lAw8 := Lib.hid (lAw7.out.below hbx)
  have lBw8 := Lib.hid (lBw7.out.below hbx)
  have lDw8 := Lib.hid (lDw7.out.below hbx)
  have lXw8 := Lib.hid (lXw7.out.below hbx)
  have hbw8 := Lib.hid (belowP_at hbw7.out hbx zw7)
  have zw8 := hbw8.out.size
  clear hbx lAw7 lBw7 lDw7 lXw7 hbw7
  go_wp2_with fail
  refine (ofSd_any ⟨#[49]⟩ ⟨#[]⟩ ⟨#[]⟩ w8).mono ?_
  rintro e w9 ⟨rfl, hbx⟩
  have lAw9 := Lib.hid (lAw8.out.below hbx)
  have lBw9 := Lib.hid (lBw8.out.below hbx)
  have lDw9 := Lib.hid (lDw8.out.below hbx)
  have lXw9 := Lib.hid (lXw8.out.below hbx)
  have hbw9 := Lib.hid (belowP_at hbw8.out hbx zw8)
  have zw9 := hbw9.out.size
  clear hbx lAw8 lBw8 lDw8 lXw8 hbw8
  go_wp2_with fail
  have hbl : Below w9.heap.size w9 (w9.alloc (.cells #[.int .i64 1, .string ⟨#[49]⟩, .string ⟨#[]⟩, .string ⟨#[97, 10, 98]⟩, .int .u64 0, .int .i64 1, .string ⟨#[49]⟩, .string ⟨#[]⟩, .string ⟨#[]⟩, .int .u64 0, .int .i64 2, .string ⟨#[]⟩, .string ⟨#[]⟩, .string ⟨#[]⟩, .int .u64 5] 40)) := (Below.refl _ _).alloc (Nat.le_refl _) _
  refine (sameSd_yes A1 (some ⟨w9.heap.size, 0, none⟩) [(1, ([49], [], [97, 10, 98]), 0), (1, ([49], [], []), 0), (2, ([], [], []), 5)] 3 c1 3 _ rfl (lAw9.out.below hbl).at (SdAt.lit (Has.new w9 _ _)) (fun x hx => by have hx := hx; simp only [List.mem_cons, List.not_mem_nil, or_false] at hx; rcases hx with rfl | rfl | rfl <;> exact ⟨by decide, by decide, by decide, by decide, by decide⟩) (by decide)).mono ?_
  rintro e wJ ⟨rfl, hby⟩
  have hbx := hbl.trans (hby.mono hbl.size)
  have lBwJ := Lib.hid (lBw9.out.below hbx)
  have lDwJ := Lib.hid (lDw9.out.below hbx)
  have lXwJ := Lib.hid (lXw9.out.below hbx)
  have hbwJ := Lib.hid (belowP_at hbw9.out hbx zw9)
  have zwJ := hbwJ.out.size
  clear hby hbx hbl lAw9 lBw9 lDw9 lXw9 hbw9
  go_wp2_with fail
  refine (ofSd_any ⟨#[]⟩ ⟨#[]⟩ ⟨#[97]⟩ wJ).mono ?_
  rintro e wK ⟨rfl, hbx⟩
  have lBwK := Lib.hid (lBwJ.out.below hbx)
  have lDwK := Lib.hid (lDwJ.out.below hbx)
  have lXwK := Lib.hid (lXwJ.out.below hbx)
  have hbwK := Lib.hid (belowP_at hbwJ.out hbx zwJ)
  have zwK := hbwK.out.size
  clear hbx lBwJ lDwJ lXwJ hbwJ
  go_wp2_with fail
  have hbl : Below wK.heap.size wK (wK.alloc (.cells #[.int .i64 3, .string ⟨#[]⟩, .string ⟨#[]⟩, .string ⟨#[]⟩, .int .u64 0, .int .i64 1, .string ⟨#[]⟩, .string ⟨#[]⟩, .string ⟨#[97]⟩, .int .u64 0] 40)) := (Below.refl _ _).alloc (Nat.le_refl _) _
  refine (sameSd_yes A2 (some ⟨wK.heap.size, 0, none⟩) [(3, ([], [], []), 0), (1, ([], [], [97]), 0)] 2 c2 2 _ rfl (lBwK.out.below hbl).at (SdAt.lit (Has.new wK _ _)) (fun x hx => by have hx := hx; simp only [List.mem_cons, List.not_mem_nil, or_false] at hx; rcases hx with rfl | rfl <;> exact ⟨by decide, by decide, by decide, by decide, by decide⟩) (by decide)).mono ?_
  rintro e wL ⟨rfl, hby⟩
  have hbx := hbl.trans (hby.mono hbl.size)
  have lDwL := Lib.hid (lDwK.out.below hbx)
  have lXwL := Lib.hid (lXwK.out.below hbx)
  have hbwL := Lib.hid (belowP_at hbwK.out hbx zwK)
  have zwL := hbwL.out.size
  clear hby hbx hbl lBwK lDwK lXwK hbwK
  go_wp2_with fail
  refine (ofSd_any ⟨#[]⟩ ⟨#[]⟩ ⟨#[120]⟩ wL).mono ?_
  rintro e wM ⟨rfl, hbx⟩
  have lDwM := Lib.hid (lDwL.out.below hbx)
  have lXwM := Lib.hid (lXwL.out.below hbx)
  have hbwM := Lib.hid (belowP_at hbwL.out hbx zwL)
  have zwM := hbwM.out.size
  clear hbx lDwL lXwL hbwL
  go_wp2_with fail
  have hbl : Below wM.heap.size wM (wM.alloc (.cells #[.int .i64 1, .string ⟨#[]⟩, .string ⟨#[]⟩, .string ⟨#[120]⟩, .int .u64 0] 40)) := (Below.refl _ _).alloc (Nat.le_refl _) _
  refine (sameSd_yes A5 (some ⟨wM.heap.size, 0, none⟩) [(1, ([], [], [120]), 0)] 1 c5 1 _ rfl (lDwM.out.below hbl).at (SdAt.lit (Has.new wM _ _)) (fun x hx => by have hx := hx; simp only [List.mem_cons, List.not_mem_nil, or_false] at hx; rcases hx with rfl <;> exact ⟨by decide, by decide, by decide, by decide, by decide⟩) (by decide)).mono ?_
  rintro e wN ⟨rfl, hby⟩
  have hbx := hbl.trans (hby.mono hbl.size)
  have lXwN := Lib.hid (lXwM.out.below hbx)
  have hbwN := Lib.hid (belowP_at hbwM.out hbx zwM)
  have zwN := hbwN.out.size
  clear hby hbx hbl lDwM lXwM hbwM
  go_wp2_with fail
  refine (ofSd_any ⟨#[55]⟩ ⟨#[]⟩ ⟨#[]⟩ wN).mono ?_
  rintro e wO ⟨rfl, hbx⟩
  have lXwO := Lib.hid (lXwN.out.below hbx)
  have hbwO := Lib.hid (belowP_at hbwN.out hbx zwN)
  have zwO := hbwO.out.size
  clear hbx lXwN hbwN
  go_wp2_with fail
  have hbl : Below wO.heap.size wO (wO.alloc (.cells #[.int .i64 1, .string ⟨#[55]⟩, .string ⟨#[]⟩, .string ⟨#[]⟩, .int .u64 0] 40)) := (Below.refl _ _).alloc (Nat.le_refl _) _
  refine (sameSd_yes A7 (some ⟨wO.heap.size, 0, none⟩) [(1, ([55], [], []), 0)] 1 c7 1 _ rfl (lXwO.out.below hbl).at (SdAt.lit (Has.new wO _ _)) (fun x hx => by have hx := hx; simp only [List.mem_cons, List.not_mem_nil, or_false] at hx; rcases hx with rfl <;> exact ⟨by decide, by decide, by decide, by decide, by decide⟩) (by decide)).mono ?_
  rintro e wP ⟨rfl, hby⟩
  have hbx := hbl.trans (hby.mono hbl.size)
  have hbwP := Lib.hid (belowP_at hbwO.out hbx zwO)
  have zwP := hbwP.out.size
  clear hby hbx hbl lXwO hbwO
  go_wp2
  go_ret
  exact ⟨rfl, hbwP.out⟩
end Go.Proofs.YtlcfpnegpihicaaGreatDoor
