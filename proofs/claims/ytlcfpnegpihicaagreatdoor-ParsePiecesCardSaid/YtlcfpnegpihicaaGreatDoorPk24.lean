import Derived.Test.YtlcfpnegpihicaaGreatDoorPk23
import Derived.Test.YtlcfpnegpihicaaGreatDoorPk20
import Derived.Test.YtlcfpnegpihicaaGreatDoorPk19
import Derived.Test.YtlcfpnegpihicaaGreatDoorPk17
import Derived.Lib.SlBytesConst
import Derived.Test.YtlcfpnegpihicaaGreatDoorPk18
import Derived.Test.YtlcfpnegpihicaaGreatDoorPk12
import Derived.Deep.CutRange
import Derived.BigQuiet
import Derived.Maps.AppendAt
import Derived.Lib.MinMax
namespace Go.Proofs.YtlcfpnegpihicaaGreatDoor
open Go.RowKit Go.Shelf
attribute [local go_sem] Oper.semAt_some

/-! ## The chapter's rows -/
/-- A list of what is said, in memory of its own. -/
def SdK (W : World) (A : Option Addr) (k c : Nat) (l : List Sd) : Prop := ∃ n0, Sds W n0 (.slice A k c) l
theorem SdK.below {W W' : World} {A : Option Addr} {k c : Nat} {l : List Sd} (h : SdK W A k c l) (hb : Below W.heap.size W W') : SdK W' A k c l := by
  obtain ⟨n0, h⟩ := h
  exact ⟨n0, h.below hb⟩
theorem Sds.named {W : World} {n0 : Nat} {v : Value} {l : List Sd} (h : Sds W n0 v l) : ∃ A c, v = .slice A l.length c ∧ SdK W A l.length c l := by
  obtain ⟨A, c, rfl, _⟩ := h.shape
  exact ⟨A, c, rfl, n0, h⟩
theorem SdK.at {W : World} {A : Option Addr} {k c : Nat} {l : List Sd} (h : SdK W A k c l) : SdAt W A l := by
  obtain ⟨n0, h⟩ := h
  obtain ⟨A', c', he, h'⟩ := h.shape
  injection he with e1 _ _
  rw [e1]; exact h'
theorem SdAt.lit {W : World} {k : Nat} {xs : List Sd} (h : Has W k 40 (sdsC xs).toArray) : SdAt W (some ⟨k, 0, none⟩) xs := fun i x hx => by
  obtain ⟨h1, h2, h3, h4, h5⟩ := sdsC_get xs i x hx
  exact ⟨k, rfl, h.lt, by rw [h.cell]; simpa using h1, by rw [h.cell]; simpa using h2, by rw [h.cell]; simpa using h3, by rw [h.cell]; simpa using h4, by rw [h.cell]; simpa using h5⟩
/-- The tables, all of which lie below w. -/
structure PsT0 (w : World) : Prop where
  f : FTabs w
  g : GrT w
  e : EvT w
  low : FLow w.heap.size
theorem FLow.up {a b : Nat} (h : FLow a) (hab : a ≤ b) : FLow b := by
  unfold FLow at *
  omega
theorem PsT0.below {w w' : World} (h : PsT0 w) (hb : Below w.heap.size w w') : PsT0 w' :=
  ⟨h.f.kept h.low (fun k hk => hb.block k hk), h.g.below hb, h.e.below hb, h.low.up hb.size⟩
theorem litP_fr (w : World) (l : List UInt8) (cs : Array Value) (fr : Nat × Nat) (hcs : (byts l).toArray = cs) : Rd (w.alloc (.cells cs 5 fr)) (fun k => k < (w.alloc (.cells cs 5 fr)).heap.size ∧ w.heap.size ≤ k) (some ⟨w.heap.size, 0, none⟩) l := fun _ => by
  refine ⟨_, rfl, by simp, fun j u hu => ?_⟩
  rw [add_zero_, Nat.zero_add, cell_of_row _ _ j cs _ fr (World.alloc_heap_new w _), ← hcs]
  simpa using hu
def OfLitP (ls : List Sd) (k : Nat) (w : World) (e : Ending) (w' : World) : Prop := ∃ A c, e = .returned (.tuple #[.slice A k c, .int .i64 0]) ∧ SdK w' A k c ls ∧ Below w.heap.size w w'
theorem ofP_lit (l m n k : Nat) (lit : List UInt8) (ls : List Sd) (cs : Array Value) (fr : Nat × Nat) (w : World) (hT : PsT0 w) (hls : saysP l m init0 (prNew []) lit = ls) (hk : ls.length = k) (hcs : (byts lit).toArray = cs) (hn : n = lit.length) (hl : lit.length ≤ 100) (h1 : 1 ≤ l) (h2 : l ≤ 65536) (h3 : 1 ≤ m) (h4 : m ≤ 65536) :
    Calls Tryz.prog 7 #[.int .i64 (l : Int), .int .i64 (m : Int), .slice (some ⟨w.heap.size, 0, none⟩) n n] (w.alloc (.cells cs 5 fr)) (OfLitP ls k w) := by
  have hb : Below w.heap.size w (w.alloc (.cells cs 5 fr)) := (Below.refl _ _).alloc (Nat.le_refl _) _
  have hT2 := hT.below hb
  refine (ofPs_yes 0 l m n n (some ⟨w.heap.size, 0, none⟩) lit _ h1 h2 h3 h4 hn (Nat.le_refl _) (by omega) (by omega) ((litP_fr w lit cs fr hcs).mono (fun k hk => hk.1)) hT2.g hT2.f hT2.low).mono ?_
  rintro e w' ⟨v, rfl, h1, h2⟩
  rw [hls] at h1
  obtain ⟨A, c, rfl, h3⟩ := h1.named
  rw [hk] at h3 ⊢
  exact ⟨A, c, rfl, h3, hb.trans (h2.mono hb.size)⟩
def WroteLitP (B p l m : Nat) (c' : CSt) (s' : PrS) (ls : List Sd) (k : Nat) (w : World) (e : Ending) (w' : World) : Prop :=
  ∃ A c, e = .returned (.tuple #[.slice A k c, .int .i64 0]) ∧ SdK w' A k c ls ∧ PrO w' B p l m c' s' ∧ Below B w w' ∧ (∀ A k c ls, SdK w A k c ls → SdK w' A k c ls)
theorem writeP_lit (B p l m n k : Nat) (c : CSt) (s : PrS) (lit : List UInt8) (ls : List Sd) (c' : CSt) (s' : PrS) (cs : Array Value) (fr : Nat × Nat) (w : World) (hs : PrO w B p l m c s) (hok : c.ok l) (hok2 : s.ok m l) (hll : s.last.length ≤ 1000000) (hT : FTabs w) (hL : FLow B) (hB : B ≤ w.heap.size)
    (hls : saysP l m c s lit = ls) (hc' : (stepC l c lit).2 = c') (hs' : nextP l m c s lit = s') (hk : ls.length = k) (hcs : (byts lit).toArray = cs) (hn : n = lit.length) (hl : lit.length ≤ 100) (h1 : 1 ≤ l) (h2 : l ≤ 65536) (h4 : m ≤ 65536) :
    Calls Tryz.prog 17 #[.pointer (some ⟨p, 0, none⟩), .slice (some ⟨w.heap.size, 0, none⟩) n n] (w.alloc (.cells cs 5 fr)) (WroteLitP B p l m c' s' ls k w) := by
  have hb : Below w.heap.size w (w.alloc (.cells cs 5 fr)) := (Below.refl _ _).alloc (Nat.le_refl _) _
  refine (writeO_any B p l m c s lit (some ⟨w.heap.size, 0, none⟩) n n w _ hs hb hok hok2 hll h1 h2 h4 hn (Nat.le_refl _) (by omega) (by omega) ((litP_fr w lit cs fr hcs).mono (fun k hk => ⟨hk.1, .inr hk.2⟩)) (hT.kept hL (fun k hk => hb.block k (by omega))) hL hB).mono ?_
  rintro e w' ⟨v, rfl, g1, g2, g3, g4⟩
  rw [hls] at g1
  rw [hc', hs'] at g2
  obtain ⟨A, cc, rfl, g5⟩ := g1.named
  rw [hk] at g5 ⊢
  exact ⟨A, cc, rfl, g5, g2, g3, fun A k c ls ⟨n0, h⟩ => ⟨n0, g4 _ _ _ h⟩⟩
def ResetO (B p l m : Nat) (id : List UInt8) (w : World) (e : Ending) (w' : World) : Prop :=
  e = .returned (.int .i64 0) ∧ PrO w' B p l m init0 (prNew id) ∧ Below B w w' ∧ (∀ A k c ls, SdK w A k c ls → SdK w' A k c ls)
theorem resetO_yes (B p l m : Nat) (c : CSt) (s : PrS) (id : List UInt8) (w : World) (hs : PrO w B p l m c s) (h1 : 1 ≤ l) (h2 : l ≤ 65536) (hid : id.length ≤ 1000000) (hT : EvT w) (hr : rightE (id, [], []) = true) (hB : B ≤ w.heap.size) :
    Calls Tryz.prog 15 #[.pointer (some ⟨p, 0, none⟩), .string ⟨id.toArray⟩] w (ResetO B p l m id w) := by
  obtain ⟨sp, dp, dv, ob, g1, g2, g3, g4⟩ := hs
  refine (resetPs_yes B p sp l m dv s id w g1.pr h1 h2 hid hT hr).mono ?_
  rintro e w' ⟨rfl, sp', dp', q1, q2, q3, q4, q5⟩
  refine ⟨rfl, ⟨sp', dp', .slice none 0 0, none, ⟨q3, bs_nil _ _, q4, fun g hg => by cases hg⟩, g2, by omega, by omega⟩, q5.below (fun k hk => by subst hk; exact g2) (by omega), fun A k c ls ⟨n0, h⟩ => ⟨n0, h.kept (fun g hg => ?_)⟩⟩
  obtain ⟨_, _, hh⟩ := h.own g hg
  exact q5.block g hh.lt (fun hk => hh.apart g1.pr (by decide) hk)
theorem sameSd_yes (A B : Option Addr) (xs : List Sd) (n c d : Nat) (w : World) (hn : n = xs.length) (hA : SdAt w A xs) (hB : SdAt w B xs) (hxs : ∀ x ∈ xs, SdOk x) (hl : n ≤ 1099511627776) :
    Calls Tryz.prog 10 #[.slice A n c, .slice B n d] w fun e w' => e = .returned (.bool true) ∧ Below w.heap.size w w' := by
  have := sameSd_any A B xs xs n n c d w hn hn hA hB hxs hxs hl hl
  rw [decide_eq_true rfl] at this
  exact this
theorem numPs_any (e : Int) (w : World) : Calls Tryz.prog 11 #[.int .i64 e] w fun r w' => r = .returned (.int .i64 e) ∧ w = w' := by
  go_enter Tryz.func11, Tryz.ntmps11
  go_wp2
  go_ret
  exact ⟨rfl, rfl⟩
theorem ofSd_any (a b c : ByteArray) (w : World) : Calls Tryz.prog 22 #[.string a, .string b, .string c] w fun r w' => r = .returned (.agg #[.int .i64 1, .string a, .string b, .string c, .int .u64 0]) ∧ Below w.heap.size w w' := by
  have hk := Has.new w 40 #[.int .i64 1, .string a, .string b, .string c, .int .u64 0]
  have x0 := hk.cell 0
  have x1 := hk.cell 1
  have x2 := hk.cell 2
  have x3 := hk.cell 3
  have x4 := hk.cell 4
  go_enter Tryz.func22, Tryz.ntmps22
  go_wp2
  exact bodyPost_ret (v := .agg #[.int .i64 1, .string a, .string b, .string c, .int .u64 0]) (by simp [results, Tryz.results22, go_sem, x0, x1, x2, x3, x4]) rfl ⟨rfl, (Below.refl _ _).alloc (Nat.le_refl _) _⟩
/-! The rows' values. -/
def wA : CSt := (stepC 99 init0 [100, 97, 116, 97, 58, 32, 120, 10]).2
def wB : CSt := (stepC 99 wA [10]).2
def wC : CSt := (stepC 99 init0 [100, 97, 116, 97, 10, 10]).2
def uA : PrS := nextP 99 99 init0 (prNew []) [100, 97, 116, 97, 58, 32, 120, 10]
def uB : PrS := nextP 99 99 wA uA [10]
theorem rp1 : saysP 99 99 init0 (prNew []) [105, 100, 58, 32, 49, 10, 100, 97, 116, 97, 58, 32, 97, 10, 100, 97, 116, 97, 58, 32, 98, 10, 10, 100, 97, 116, 97, 10, 10, 101, 118, 101, 110, 116, 58, 32, 116, 10, 10, 114, 101, 116, 114, 121, 58, 32, 53, 10] = [(1, ([49], [], [97, 10, 98]), 0), (1, ([49], [], []), 0), (2, ([], [], []), 5)] := by decide +kernel
theorem rp2 : saysP 99 2 init0 (prNew []) [100, 97, 116, 97, 58, 32, 97, 98, 99, 10, 10, 100, 97, 116, 97, 58, 32, 97, 10, 10] = [(3, ([], [], []), 0), (1, ([], [], [97]), 0)] := by decide +kernel
theorem rp3 : saysP 99 99 init0 (prNew []) [100, 97, 116, 97, 58, 32, 120, 10] = [] := by decide +kernel
theorem rp4 : saysP 99 99 wA uA [10] = [(1, ([], [], [120]), 0)] := by decide +kernel
theorem rp5 : saysP 99 99 init0 (prNew [55]) [100, 97, 116, 97, 10, 10] = [(1, ([55], [], []), 0)] := by decide +kernel
theorem rp6 : uB.last = [] := by decide +kernel
theorem rp7 : uA.last = [] := by decide +kernel
theorem okwA : wA.ok 99 := stepC_ok (init0_ok 99) _
theorem okuA : uA.ok 99 99 := by
  have h := stepC_good (init0_ok 99) [100, 97, 116, 97, 58, 32, 120, 10]
  refine stepsP_ok _ _ (prNil_ok 99 99) (fun f hf => ?_)
  unfold fieldsL at hf
  obtain ⟨y, hy, hyf⟩ := List.mem_filterMap.1 hf
  obtain ⟨g1, g2, g3, _⟩ := h y hy
  exact said_ok ⟨g1, g2, g3⟩ hyf
theorem ok7 : (prNew [55]).ok 99 99 := prNew_ok (by decide +kernel) (by decide)
theorem right7 : rightE ([55], [], []) = true := by unfold rightE cleanB soundB fitsE; decide +kernel
end Go.Proofs.YtlcfpnegpihicaaGreatDoor

namespace Go.Proofs.YtlcfpnegpihicaaGreatDoor
open Go.RowKit Go.Shelf
attribute [local go_sem] Oper.semAt_some

/-! ## Pieces: the mathematics -/
theorem flds_ok {most : Nat} {c : CSt} (hc : c.ok most) (x : List UInt8) : ∀ f ∈ fieldsL (stepC most c x).1, FldOk most f := fun f hf => by
  unfold fieldsL at hf
  obtain ⟨y, hy, hyf⟩ := List.mem_filterMap.1 hf
  obtain ⟨g1, g2, g3, _⟩ := stepC_good hc x y hy
  exact said_ok ⟨g1, g2, g3⟩ hyf
theorem nextP_ok {most m : Nat} {c : CSt} {s : PrS} (hc : c.ok most) (hs : s.ok m most) (x : List UInt8) : (nextP most m c s x).ok m most := stepsP_ok _ _ hs (flds_ok hc x)
theorem nextP_last {most m : Nat} {c : CSt} {s : PrS} (hc : c.ok most) (hl : most ≤ 65536) (hs : s.last.length ≤ 1000000) (x : List UInt8) : (nextP most m c s x).last.length ≤ 1000000 := stepsP_last hl _ _ hs (flds_ok hc x)
theorem saysP_append (most m : Nat) (c : CSt) (s : PrS) (x y : List UInt8) : saysP most m c s (x ++ y) = saysP most m c s x ++ saysP most m (stepC most c x).2 (nextP most m c s x) y := by
  unfold saysP nextP
  rw [stepC_append, fieldsL_append, stepsP_append]
theorem nextP_append (most m : Nat) (c : CSt) (s : PrS) (x y : List UInt8) : nextP most m c s (x ++ y) = nextP most m (stepC most c x).2 (nextP most m c s x) y := by
  unfold nextP
  rw [stepC_append, fieldsL_append, stepsP_append]
theorem saysP_nil {most m : Nat} {c : CSt} (hc : c.ok most) (s : PrS) : saysP most m c s [] = [] := by
  unfold saysP
  rw [stepC_nil hc]
  rfl
theorem nextP_nil {most m : Nat} {c : CSt} (hc : c.ok most) (s : PrS) : nextP most m c s [] = s := by
  unfold nextP
  rw [stepC_nil hc]
  rfl
theorem saysP_count {most m : Nat} (c : CSt) (s : PrS) (x : List UInt8) : (saysP most m c s x).length ≤ 3 * (c.ws.length + x.length) := by
  have h1 := stepsP_count m (fieldsL (stepC most c x).1) s
  have h2 := fieldsL_count (stepC most c x).1
  have h3 := stepC_count (most := most) c x
  unfold saysP
  omega
theorem stepsP_sd {most line : Nat} (hm : most ≤ 65536) (hl : line ≤ 65536) : ∀ (fs : List FdT) (s : PrS), s.ok most line → s.last.length ≤ 1000000 → (∀ f ∈ fs, FldOk line f) → ∀ x ∈ (stepsP most s fs).2, SdOk x
  | [], _, _, _, _, x, hx => by simp [stepsP] at hx
  | f :: r, s, h, hll, hf, x, hx => by
    simp only [stepsP, List.mem_append] at hx
    rcases hx with hx | hx
    · exact (doP_said h hm hl hll (by simpa using hx)).1
    · exact stepsP_sd hm hl r _ (doP_ok h (hf f (by simp))) (doP_last (hf f (by simp)) hl hll) (fun g hg => hf g (by simp [hg])) x hx
theorem saysP_sd {most m : Nat} {c : CSt} {s : PrS} (hc : c.ok most) (hs : s.ok m most) (hl : most ≤ 65536) (hm : m ≤ 65536) (hll : s.last.length ≤ 1000000) (x : List UInt8) : ∀ y ∈ saysP most m c s x, SdOk y := stepsP_sd hm hl _ _ hs hll (flds_ok hc x)
theorem saysP_right {most m : Nat} {c : CSt} {s : PrS} (hc : c.ok most) (hs : s.ok m most) (hm : m ≤ 65536) (x : List UInt8) : ∀ y ∈ saysP most m c s x, y.1 = 1 → rightE y.2.1 = true ∧ sumE y.2.1 ≤ m := stepsP_right hm _ _ hs (flds_ok hc x)
/-- The bytes up to i and q more. -/
theorem take_cutP (bs : List UInt8) (i q : Nat) : bs.take (i + q) = bs.take i ++ (bs.drop i).take q := by
  rw [List.take_add]
theorem saysP_more (most m : Nat) (bs : List UInt8) (i q : Nat) : saysP most m init0 (prNew []) (bs.take (i + q)) = saysP most m init0 (prNew []) (bs.take i) ++ saysP most m (stepC most init0 (bs.take i)).2 (nextP most m init0 (prNew []) (bs.take i)) ((bs.drop i).take q) := by
  rw [take_cutP, saysP_append]
theorem nextP_more (most m : Nat) (bs : List UInt8) (i q : Nat) : nextP most m init0 (prNew []) (bs.take (i + q)) = nextP most m (stepC most init0 (bs.take i)).2 (nextP most m init0 (prNew []) (bs.take i)) ((bs.drop i).take q) := by
  rw [take_cutP, nextP_append]
theorem stepC_moreP (most : Nat) (bs : List UInt8) (i q : Nat) : (stepC most init0 (bs.take (i + q))).2 = (stepC most (stepC most init0 (bs.take i)).2 ((bs.drop i).take q)).2 := by
  rw [take_cutP, stepC_append]

/-! ## Lists of what is said, one behind another -/
theorem sdsC_split : ∀ (x : List Sd) (j : Nat) (u : Value), (sdsC x)[j]? = some u → ∃ i y, x[i]? = some y ∧ ((j = i * 5 ∧ u = .int .i64 y.1) ∨ (j = i * 5 + 1 ∧ u = .string ⟨y.2.1.1.toArray⟩) ∨ (j = i * 5 + 2 ∧ u = .string ⟨y.2.1.2.1.toArray⟩) ∨ (j = i * 5 + 3 ∧ u = .string ⟨y.2.1.2.2.toArray⟩) ∨ (j = i * 5 + 4 ∧ u = .int .u64 y.2.2))
  | [], j, u, h => by simp [sdsC] at h
  | y :: r, 0, u, h => by
    refine ⟨0, y, rfl, .inl ⟨rfl, ?_⟩⟩
    simpa [sdsC, sdC] using h.symm
  | y :: r, 1, u, h => by
    refine ⟨0, y, rfl, .inr (.inl ⟨rfl, ?_⟩)⟩
    simpa [sdsC, sdC] using h.symm
  | y :: r, 2, u, h => by
    refine ⟨0, y, rfl, .inr (.inr (.inl ⟨rfl, ?_⟩))⟩
    simpa [sdsC, sdC] using h.symm
  | y :: r, 3, u, h => by
    refine ⟨0, y, rfl, .inr (.inr (.inr (.inl ⟨rfl, ?_⟩)))⟩
    simpa [sdsC, sdC] using h.symm
  | y :: r, 4, u, h => by
    refine ⟨0, y, rfl, .inr (.inr (.inr (.inr ⟨rfl, ?_⟩)))⟩
    simpa [sdsC, sdC] using h.symm
  | y :: r, j + 5, u, h => by
    have h2 : (sdsC r)[j]? = some u := by simpa [sdsC, sdC] using h
    obtain ⟨i, z, hz, hc⟩ := sdsC_split r j u h2
    refine ⟨i + 1, z, by simpa using hz, ?_⟩
    rcases hc with ⟨e, hu⟩ | ⟨e, hu⟩ | ⟨e, hu⟩ | ⟨e, hu⟩ | ⟨e, hu⟩
    · exact .inl ⟨by omega, hu⟩
    · exact .inr (.inl ⟨by omega, hu⟩)
    · exact .inr (.inr (.inl ⟨by omega, hu⟩))
    · exact .inr (.inr (.inr (.inl ⟨by omega, hu⟩)))
    · exact .inr (.inr (.inr (.inr ⟨by omega, hu⟩)))
theorem sdsC_length : ∀ (l : List Sd), (sdsC l).length = l.length * 5
  | [] => rfl
  | _ :: r => by
    have := sdsC_length r
    show (sdsC r).length + 1 + 1 + 1 + 1 + 1 = _
    rw [this, List.length_cons]; omega
set_option maxRecDepth 100000 in
theorem run_append_sds {w : World} {n0 : Nat} {v : Value} {l : List Sd} (hv : Sds w n0 v l) (A : Option Addr) (x : List Sd) (c : Nat) (hx : SdAt w A x) (hs : l.length + x.length ≤ 1000000000) (hn : n0 ≤ w.heap.size) (ty : TypeId) :
    ∃ v' w', (Builtin.append_ #[24, 24] ty #[v, .slice A x.length c]).run Tryz.prog w = .ok v' w' ∧ Sds w' n0 v' (l ++ x) ∧ w.grownBy w' v.ownBlock := by
  obtain ⟨i, hi, hz, hz1, hz2⟩ := info_parts infoSaid
  have nothing : x = [] → ∃ v' w', (Builtin.append_ #[24, 24] ty #[v, .slice A x.length c]).run Tryz.prog w = .ok v' w' ∧ Sds w' n0 v' (l ++ x) ∧ w.grownBy w' v.ownBlock := by
    rintro rfl
    have hl : Sds w n0 v (l ++ []) := by rw [List.append_nil]; exact hv
    have hg : w.grownBy w v.ownBlock := ⟨rfl, rfl, rfl, Nat.le_refl _, fun _ _ _ => rfl⟩
    rcases hv.2 with ⟨rfl, h0⟩ | ⟨g, cap, cur, rfl, hb, hh, hnc, hcm, _⟩
    · refine ⟨_, w, ?_, hl, hg⟩
      cases A <;> simp [Builtin.append_, run_underlying Tryz.underlying24, sizeOf, typeInfo, hi, Builtin.lenOf, Builtin.firstCells]
      all_goals
        have h0 := run_loadCells_list (P := Tryz.prog) w ‹Addr› [] (by simp)
        simp only [List.length_nil] at h0
        simp [h0]
    · refine ⟨_, w, ?_, hl, hg⟩
      cases A <;> simp [Builtin.append_, run_underlying Tryz.underlying24, sizeOf, typeInfo, hi, Builtin.lenOf, Builtin.firstCells, hnc, storeCells]
      all_goals
        have h0 := run_loadCells_list (P := Tryz.prog) w ‹Addr› [] (by simp)
        simp only [List.length_nil] at h0
        simp [h0, storeCells]
  rcases Nat.eq_zero_or_pos x.length with h0 | h0
  · exact nothing (List.eq_nil_of_length_eq_zero h0)
  · obtain ⟨g, rfl, _, _⟩ := hx 0 x[0] (List.getElem?_eq_getElem h0)
    have hc : ∀ j u, (sdsC x)[j]? = some u → w.cell? ((⟨g, 0, none⟩ : Addr).add j) = some u := fun j u hu => by
      obtain ⟨i, y, hy, hh⟩ := sdsC_split x j u hu
      obtain ⟨g', he, _, h1, h2, h3, h4, h5⟩ := hx i y hy
      obtain rfl : g = g' := by injection he with he; injection he
      rw [add_zero_, Nat.zero_add]
      rcases hh with ⟨rfl, rfl⟩ | ⟨rfl, rfl⟩ | ⟨rfl, rfl⟩ | ⟨rfl, rfl⟩ | ⟨rfl, rfl⟩
      · exact h1
      · exact h2
      · exact h3
      · exact h4
      · exact h5
    obtain ⟨v', w', hrun, h2, h3, _, _⟩ := run_append_own_at (P := Tryz.prog) w n0 24 ty 40 i (.agg #[.int .i64 0, .string ⟨#[]⟩, .string ⟨#[]⟩, .string ⟨#[]⟩, .int .u64 0]) 5 64 Tryz.underlying24 hi hz hz1 hz2 rfl (by decide) v l.length (sdsC l) hv ⟨g, 0, none⟩ x.length c (sdsC x) (sdsC_length x) hc (sdsC_one x) (by simp only [maxLen]; omega) (by omega) hn
    refine ⟨v', w', hrun, ?_, h3⟩
    unfold Sds
    rw [List.length_append, sdsC_append]
    exact h2
theorem wpList_append_sds {w : World} {ops : Array Oper} {rest : List Oper} {o : Oper} {a : Act} {Q : Exit → Act → World → Prop} {n0 : Nat} {v : Value} {l : List Sd} (hgd : o.guard = none) (s x : Operand) (ho : o.op = .call { callee := .builtin .append, args := #[s, x], argTypes := #[24, 24] }) (hsv : a.eval s = v) (hv : Sds w n0 v l)
    (A : Option Addr) (y : List Sd) (m c : Nat) (hm : m = y.length) (hxv : a.eval x = .slice A m c) (hx : SdAt w A y) (hs : l.length + y.length ≤ 1000000000) (hn : n0 ≤ w.heap.size)
    (h : ∀ v' w', Sds w' n0 v' (l ++ y) → w.grownBy w' v.ownBlock → wpList Tryz.prog ops Q rest (a.put o.dst v') w') : wpList Tryz.prog ops Q (o :: rest) a w := by
  subst hm
  refine wpList_plain hgd fun K hK => ?_
  obtain ⟨v', w', hrun, h2, h3⟩ := run_append_sds hv A y c hx hs hn o.type
  unfold Oper.wp execOp
  simp only [ho, resolve, invoke, builtin, Sem.run_bind, Sem.run_pure, Result.andThen_ok, List.map_toArray, List.map_cons, List.map_nil, hsv, hxv, hrun]
  exact hK _ _ (h v' w' h2 h3)
/-! ## What a parser of a law's own waits for -/
theorem waitsO_any (B p most m : Nat) (c : CSt) (s : PrS) (w : World) (hs : PrO w B p most m c s) (h1 : 1 ≤ most) (hok : s.ok m most) (hl : most ≤ 65536) (hm : m ≤ 65536) : Calls Tryz.prog 19 #[.pointer (some ⟨p, 0, none⟩)] w fun e w' => ∃ q : Nat, q ≤ m + 2 * most + 2 ∧ e = .returned (.int .i64 (q : Int)) ∧ Below w.heap.size w w' := by
  obtain ⟨sp, dp, dv, ob, g1, g2, g3, g4⟩ := hs
  have hw := hok.waits
  refine (waitsPs_any B p sp most m dv s w g1.pr g1.data h1 (by omega) (by omega)).mono ?_
  rintro e w' ⟨rfl, hb⟩
  exact ⟨_, hw, rfl, hb⟩
end Go.Proofs.YtlcfpnegpihicaaGreatDoor

namespace Go.Proofs.YtlcfpnegpihicaaGreatDoor
open Go.RowKit Go.Shelf
attribute [local go_sem] Oper.semAt_some

/-! ## works -/
theorem belowP_at {B : Nat} {a b c : World} (h : Below B a b) (k : Below b.heap.size b c) (hB : B ≤ b.heap.size) : Below B a c := h.trans (k.mono hB)
set_option maxRecDepth 100000 in
set_option maxHeartbeats 4000000 in
theorem worksPs_any (w : World) (hT : PsT0 w) : Calls Tryz.prog 6 #[] w fun e w' => e = .returned (.bool true) ∧ Below w.heap.size w w' := by
  have hT' := Lib.hid hT
  clear hT
  have hcc := fun (w : World) (C : Array Value) (n c : Nat) => Lib.run_convert_bytes_const (P := Tryz.prog) w 22 5 C n c Tryz.underlying22 Tryz.underlying5
  go_enter Tryz.func6, Tryz.ntmps6
  go_wp2_with fail
  refine (ofP_lit 99 99 48 3 [105, 100, 58, 32, 49, 10, 100, 97, 116, 97, 58, 32, 97, 10, 100, 97, 116, 97, 58, 32, 98, 10, 10, 100, 97, 116, 97, 10, 10, 101, 118, 101, 110, 116, 58, 32, 116, 10, 10, 114, 101, 116, 114, 121, 58, 32, 53, 10] _ _ _ w hT'.out rp1 rfl rfl rfl (by decide) (by decide) (by decide) (by decide) (by decide)).mono ?_
  rintro e w1 ⟨A1, c1, rfl, l1, hb1⟩
  have l1' := Lib.hid l1
  have hb1' := Lib.hid hb1
  have z1 := hb1.size
  clear l1 hb1
  go_wp2_with fail
  refine (ofP_lit 99 2 20 2 [100, 97, 116, 97, 58, 32, 97, 98, 99, 10, 10, 100, 97, 116, 97, 58, 32, 97, 10, 10] _ _ _ w1 (hT'.out.below hb1'.out) rp2 rfl rfl rfl (by decide) (by decide) (by decide) (by decide) (by decide)).mono ?_
  rintro e w2 ⟨A2, c2, rfl, l2, hb2⟩
  have l12 := Lib.hid (l1'.out.below hb2)
  have l2' := Lib.hid l2
  have hb2' := Lib.hid (belowP_at hb1'.out hb2 z1)
  have z2 := hb2'.out.size
  clear l2 hb2 l1' hb1'
  go_wp2_with fail
  refine (newPs_yes w.heap.size 99 99 w2 (hT'.out.below hb2'.out).g (by decide) (by decide) (by decide) (by decide)).mono ?_
  rintro e w3 ⟨p, rfl, hm⟩
  have hb3 := hm.choose_spec.choose_spec.2.2.2.2.2
  have hs3' := Lib.hid (hm.own z2)
  have l13 := Lib.hid (l12.out.below hb3)
  have l23 := Lib.hid (l2'.out.below hb3)
  have hb3' := Lib.hid (belowP_at hb2'.out hb3 z2)
  have z3 := hb3'.out.size
  clear hm hb3 l12 l2' hb2'
  go_wp2_with fail
  refine (writeP_lit w.heap.size p 99 99 8 0 init0 (prNew []) [100, 97, 116, 97, 58, 32, 120, 10] _ wA uA _ _ w3 hs3'.out (init0_ok 99) (prNil_ok 99 99) (Nat.zero_le _) (hT'.out.below hb3'.out).f hT'.out.low z3 rp3 rfl rfl rfl rfl rfl (by decide) (by decide) (by decide) (by decide)).mono ?_
  rintro e w4 ⟨A4, c4, rfl, _, hs4, hb4, k4⟩
  have l14 := Lib.hid (k4 _ _ _ _ l13.out)
  have l24 := Lib.hid (k4 _ _ _ _ l23.out)
  have hs4' := Lib.hid hs4
  have hb4' := Lib.hid (hb3'.out.trans hb4)
  have z4 := hb4'.out.size
  clear hs4 hb4 k4 l13 l23 hs3' hb3'
  go_wp2_with fail
  refine (writeP_lit w.heap.size p 99 99 1 1 wA uA [10] _ wB uB _ _ w4 hs4'.out okwA okuA (by rw [rp7]; exact Nat.zero_le _) (hT'.out.below hb4'.out).f hT'.out.low z4 rp4 rfl rfl rfl rfl rfl (by decide) (by decide) (by decide) (by decide)).mono ?_
  rintro e w5 ⟨A5, c5, rfl, l5, hs5, hb5, k5⟩
  have l15 := Lib.hid (k5 _ _ _ _ l14.out)
  have l25 := Lib.hid (k5 _ _ _ _ l24.out)
  have l5' := Lib.hid l5
  have hs5' := Lib.hid hs5
  have hb5' := Lib.hid (hb4'.out.trans hb5)
  have z5 := hb5'.out.size
  clear l5 hs5 hb5 k5 l14 l24 hs4' hb4'
  go_wp2_with fail
  have hla : Hid (Calls Tryz.prog 18 #[.pointer (some ⟨p, 0, none⟩)] w5 fun e w' => e = .returned (.string ⟨#[]⟩) ∧ w5 = w') := Lib.hid (by
    obtain ⟨sp, dp, dv, ob, h1, _⟩ := hs5'.out
    have h := lastId_any p sp 99 99 dv uB w5 h1.pr (by decide)
    rw [rp6] at h
    exact h)
  refine hla.out.mono ?_
  rintro e w' ⟨rfl, rfl⟩
  clear hla
  go_wp2_with fail
  refine (resetO_yes w.heap.size p 99 99 wB uB [55] w5 hs5'.out (by decide) (by decide) (by decide) (hT'.out.below hb5'.out).e right7 z5).mono ?_
  rintro e w6 ⟨rfl, hs6, hb6, k6⟩
  have l16 := Lib.hid (k6 _ _ _ _ l15.out)
  have l26 := Lib.hid (k6 _ _ _ _ l25.out)
  have l56 := Lib.hid (k6 _ _ _ _ l5'.out)
  have hs6' := Lib.hid hs6
  have hb6' := Lib.hid (hb5'.out.trans hb6)
  have z6 := hb6'.out.size
  clear hs6 hb6 k6 l15 l25 l5' hs5' hb5'
  go_wp2_with fail
  refine (writeP_lit w.heap.size p 99 99 6 1 init0 (prNew [55]) [100, 97, 116, 97, 10, 10] _ _ _ _ _ w6 hs6'.out (init0_ok 99) ok7 (by decide) (hT'.out.below hb6'.out).f hT'.out.low z6 rp5 rfl rfl rfl rfl rfl (by decide) (by decide) (by decide) (by decide)).mono ?_
  rintro e w7 ⟨A7, c7, rfl, l7, _, hb7, k7⟩
  have l17 := Lib.hid (k7 _ _ _ _ l16.out)
  have l27 := Lib.hid (k7 _ _ _ _ l26.out)
  have l57 := Lib.hid (k7 _ _ _ _ l56.out)
  have l7' := Lib.hid l7
  have hb7' := Lib.hid (hb6'.out.trans hb7)
  have z7 := hb7'.out.size
  clear l7 hb7 k7 l16 l26 l56 hs6' hb6' hcc
  go_wp2_with (go_at_call 11; (with_reducible refine Calls.mono (numPs_any _ _) ?_); rintro e w' ⟨rfl, rfl⟩)
  have lAw7 := Lib.hid l17.out
  have lBw7 := Lib.hid l27.out
  have lDw7 := Lib.hid l57.out
  have lXw7 := Lib.hid l7'.out
  have hbw7 := Lib.hid hb7'.out
  have zw7 := z7
  clear l17 l27 l57 l7' hb7' z7
  refine (ofSd_any ⟨#[49]⟩ ⟨#[]⟩ ⟨#[97, 10, 98]⟩ w7).mono ?_
  rintro e w8 ⟨rfl, hbx⟩
  have lAw8 := Lib.hid (lAw7.out.below hbx)
  have lBw8 := Lib.hid (lBw7.out.below hbx)
  have lDw8 := Lib.hid (lDw7.out.below hbx)
  have lXw8 := Lib.hid (lXw7.out.below hbx)
  have hbw8 := Lib.hid (belowP_at hbw7.out hbx zw7)
  have zw8 := hbw8.out.size
  clear hbx lAw7 lBw7 lDw7 lXw7 hbw7
  go_wp2_with fail
  refine (ofSd_any ⟨#[49]⟩ ⟨#[]⟩ ⟨#[]⟩ w8).mono ?_
  rintro e w9 ⟨rfl, hbx⟩
  have lAw9 := Lib.hid (lAw8.out.below hbx)
  have lBw9 := Lib.hid (lBw8.out.below hbx)
  have lDw9 := Lib.hid (lDw8.out.below hbx)
  have lXw9 := Lib.hid (lXw8.out.below hbx)
  have hbw9 := Lib.hid (belowP_at hbw8.out hbx zw8)
  have zw9 := hbw9.out.size
  clear hbx lAw8 lBw8 lDw8 lXw8 hbw8
  go_wp2_with fail
  have hbl : Below w9.heap.size w9 (w9.alloc (.cells #[.int .i64 1, .string ⟨#[49]⟩, .string ⟨#[]⟩, .string ⟨#[97, 10, 98]⟩, .int .u64 0, .int .i64 1, .string ⟨#[49]⟩, .string ⟨#[]⟩, .string ⟨#[]⟩, .int .u64 0, .int .i64 2, .string ⟨#[]⟩, .string ⟨#[]⟩, .string ⟨#[]⟩, .int .u64 5] 40)) := (Below.refl _ _).alloc (Nat.le_refl _) _
  refine (sameSd_yes A1 (some ⟨w9.heap.size, 0, none⟩) [(1, ([49], [], [97, 10, 98]), 0), (1, ([49], [], []), 0), (2, ([], [], []), 5)] 3 c1 3 _ rfl (lAw9.out.below hbl).at (SdAt.lit (Has.new w9 _ _)) (fun x hx => by have hx := hx; simp only [List.mem_cons, List.not_mem_nil, or_false] at hx; rcases hx with rfl | rfl | rfl <;> exact ⟨by decide, by decide, by decide, by decide, by decide⟩) (by decide)).mono ?_
  rintro e wJ ⟨rfl, hby⟩
  have hbx := hbl.trans (hby.mono hbl.size)
  have lBwJ := Lib.hid (lBw9.out.below hbx)
  have lDwJ := Lib.hid (lDw9.out.below hbx)
  have lXwJ := Lib.hid (lXw9.out.below hbx)
  have hbwJ := Lib.hid (belowP_at hbw9.out hbx zw9)
  have zwJ := hbwJ.out.size
  clear hby hbx hbl lAw9 lBw9 lDw9 lXw9 hbw9
  go_wp2_with fail
  refine (ofSd_any ⟨#[]⟩ ⟨#[]⟩ ⟨#[97]⟩ wJ).mono ?_
  rintro e wK ⟨rfl, hbx⟩
  have lBwK := Lib.hid (lBwJ.out.below hbx)
  have lDwK := Lib.hid (lDwJ.out.below hbx)
  have lXwK := Lib.hid (lXwJ.out.below hbx)
  have hbwK := Lib.hid (belowP_at hbwJ.out hbx zwJ)
  have zwK := hbwK.out.size
  clear hbx lBwJ lDwJ lXwJ hbwJ
  go_wp2_with fail
  have hbl : Below wK.heap.size wK (wK.alloc (.cells #[.int .i64 3, .string ⟨#[]⟩, .string ⟨#[]⟩, .string ⟨#[]⟩, .int .u64 0, .int .i64 1, .string ⟨#[]⟩, .string ⟨#[]⟩, .string ⟨#[97]⟩, .int .u64 0] 40)) := (Below.refl _ _).alloc (Nat.le_refl _) _
  refine (sameSd_yes A2 (some ⟨wK.heap.size, 0, none⟩) [(3, ([], [], []), 0), (1, ([], [], [97]), 0)] 2 c2 2 _ rfl (lBwK.out.below hbl).at (SdAt.lit (Has.new wK _ _)) (fun x hx => by have hx := hx; simp only [List.mem_cons, List.not_mem_nil, or_false] at hx; rcases hx with rfl | rfl <;> exact ⟨by decide, by decide, by decide, by decide, by decide⟩) (by decide)).mono ?_
  rintro e wL ⟨rfl, hby⟩
  have hbx := hbl.trans (hby.mono hbl.size)
  have lDwL := Lib.hid (lDwK.out.below hbx)
  have lXwL := Lib.hid (lXwK.out.below hbx)
  have hbwL := Lib.hid (belowP_at hbwK.out hbx zwK)
  have zwL := hbwL.out.size
  clear hby hbx hbl lBwK lDwK lXwK hbwK
  go_wp2_with fail
  refine (ofSd_any ⟨#[]⟩ ⟨#[]⟩ ⟨#[120]⟩ wL).mono ?_
  rintro e wM ⟨rfl, hbx⟩
  have lDwM := Lib.hid (lDwL.out.below hbx)
  have lXwM := Lib.hid (lXwL.out.below hbx)
  have hbwM := Lib.hid (belowP_at hbwL.out hbx zwL)
  have zwM := hbwM.out.size
  clear hbx lDwL lXwL hbwL
  go_wp2_with fail
  have hbl : Below wM.heap.size wM (wM.alloc (.cells #[.int .i64 1, .string ⟨#[]⟩, .string ⟨#[]⟩, .string ⟨#[120]⟩, .int .u64 0] 40)) := (Below.refl _ _).alloc (Nat.le_refl _) _
  refine (sameSd_yes A5 (some ⟨wM.heap.size, 0, none⟩) [(1, ([], [], [120]), 0)] 1 c5 1 _ rfl (lDwM.out.below hbl).at (SdAt.lit (Has.new wM _ _)) (fun x hx => by have hx := hx; simp only [List.mem_cons, List.not_mem_nil, or_false] at hx; rcases hx with rfl <;> exact ⟨by decide, by decide, by decide, by decide, by decide⟩) (by decide)).mono ?_
  rintro e wN ⟨rfl, hby⟩
  have hbx := hbl.trans (hby.mono hbl.size)
  have lXwN := Lib.hid (lXwM.out.below hbx)
  have hbwN := Lib.hid (belowP_at hbwM.out hbx zwM)
  have zwN := hbwN.out.size
  clear hby hbx hbl lDwM lXwM hbwM
  go_wp2_with fail
  refine (ofSd_any ⟨#[55]⟩ ⟨#[]⟩ ⟨#[]⟩ wN).mono ?_
  rintro e wO ⟨rfl, hbx⟩
  have lXwO := Lib.hid (lXwN.out.below hbx)
  have hbwO := Lib.hid (belowP_at hbwN.out hbx zwN)
  have zwO := hbwO.out.size
  clear hbx lXwN hbwN
  go_wp2_with fail
  have hbl : Below wO.heap.size wO (wO.alloc (.cells #[.int .i64 1, .string ⟨#[55]⟩, .string ⟨#[]⟩, .string ⟨#[]⟩, .int .u64 0] 40)) := (Below.refl _ _).alloc (Nat.le_refl _) _
  refine (sameSd_yes A7 (some ⟨wO.heap.size, 0, none⟩) [(1, ([55], [], []), 0)] 1 c7 1 _ rfl (lXwO.out.below hbl).at (SdAt.lit (Has.new wO _ _)) (fun x hx => by have hx := hx; simp only [List.mem_cons, List.not_mem_nil, or_false] at hx; rcases hx with rfl <;> exact ⟨by decide, by decide, by decide, by decide, by decide⟩) (by decide)).mono ?_
  rintro e wP ⟨rfl, hby⟩
  have hbx := hbl.trans (hby.mono hbl.size)
  have hbwP := Lib.hid (belowP_at hbwO.out hbx zwO)
  have zwP := hbwP.out.size
  clear hby hbx hbl lXwO hbwO
  go_wp2
  go_ret
  exact ⟨rfl, hbwP.out⟩
end Go.Proofs.YtlcfpnegpihicaaGreatDoor

namespace Go.Proofs.YtlcfpnegpihicaaGreatDoor
open Go.RowKit Go.Shelf
attribute [local go_sem] Oper.semAt_some

/-! ## The document's Right, alone -/
/-- Has a text one of some bytes? -/
def hasB (s l : List UInt8) : Bool := s.any fun b => l.contains b
theorem hasB_all (s l : List UInt8) : (!hasB s l) = l.all fun b => !s.contains b := by
  rw [Bool.eq_iff_iff]
  unfold hasB
  simp only [Bool.not_eq_true', List.any_eq_false, List.all_eq_true, List.contains_iff_mem]
  constructor
  · intro h b hb
    cases hc : s.contains b with
    | false => rfl
    | true => exact absurd hb (h b (List.contains_iff_mem.1 hc))
  · intro h b hb hl
    have := h b hl
    rw [List.contains_iff_mem.2 hb] at this
    cases this
theorem hasB3 (t : List UInt8) : (!hasB t [0, 13, 10]) = (barL.take 3).all fun b => !t.contains b := by
  rw [hasB_all]
  simp only [barL, List.take, List.all_cons, List.all_nil, Bool.and_true]
  cases t.contains 0 <;> cases t.contains 13 <;> cases t.contains 10 <;> rfl
theorem hasB2 (t : List UInt8) : (!hasB t [13, 10]) = (barL.take 2).all fun b => !t.contains b := hasB_all _ _
theorem hasB1 (t : List UInt8) : (!hasB t [13]) = (barL.take 1).all fun b => !t.contains b := hasB_all _ _
/-- May an event be, as the document asks? -/
def refRight (e : Ev) : Bool := !hasB e.1 [0, 13, 10] && (!hasB e.2.1 [13, 10] && (!hasB e.2.2 [13] && (soundB e.1 && (soundB e.2.1 && soundB e.2.2))))
theorem refRight_eq (e : Ev) (h : e.1.length + e.2.1.length + e.2.2.length ≤ 65536) : refRight e = rightE e := by
  unfold refRight rightE fitsE cleanB
  rw [hasB3, hasB2, hasB1, decide_eq_true h]
  cases soundB e.1 <;> cases soundB e.2.1 <;> cases soundB e.2.2 <;> simp

theorem byE (l : List UInt8) (k : Nat) (__h : k < l.length) (h' : k < (⟨l.toArray⟩ : ByteArray).size) : ((⟨l.toArray⟩ : ByteArray)[k]'h') = l[k] := rfl
theorem not_in_next {b : UInt8} {l : List UInt8} {j : Nat} (h : b ∉ l.take j) (hj : j < l.length) (hne : b ≠ l[j]) : b ∉ l.take (j + 1) := by
  rw [List.take_succ_eq_append_getElem hj, List.mem_append, not_or]
  exact ⟨h, by simpa using hne⟩
theorem hasB_yes {s l : List UInt8} {k j : Nat} (hk : k < s.length) (hj : j < l.length) (h : s[k] = l[j]) : hasB s l = true := by
  unfold hasB
  exact List.any_eq_true.2 ⟨s[k], List.getElem_mem hk, List.contains_iff_mem.2 (h ▸ List.getElem_mem hj)⟩
theorem hasB_no {s l : List UInt8} (h : ∀ b ∈ s, b ∉ l) : hasB s l = false := by
  unfold hasB
  rw [List.any_eq_false]
  intro b hb hc
  exact h b hb (List.contains_iff_mem.1 hc)
set_option maxRecDepth 100000 in
set_option maxHeartbeats 1000000 in
theorem refHas_any (s l : List UInt8) (w : World) (hs : s.length ≤ 1000000) (hl : l.length ≤ 1000) : Calls Tryz.prog 36 #[.string ⟨s.toArray⟩, .string ⟨l.toArray⟩] w fun e w' => e = .returned (.bool (hasB s l)) ∧ Below w.heap.size w w' := by
  go_enter Tryz.func36, Tryz.ntmps36
  go_wp2_with fail
  go_loopw [5] (fun v W => ∃ k : Nat, v = .int .i64 (k : Int) ∧ k ≤ s.length ∧ (∀ b ∈ s.take k, b ∉ l) ∧ Below w.heap.size w W) (fun v _ => s.length - (intOf v).toNat)
  case atStart => exact ⟨0, rfl, Nat.zero_le _, fun b hb => by simp at hb, Below.refl _ _⟩
  case round =>
    obtain ⟨k, rfl, hk, hno, hb⟩ := hrel
    have hno' := Lib.hid hno
    have hb' := Lib.hid hb
    clear hno hb
    by_cases hlt : k < s.length
    · have hltI : (k : Int) < (s.length : Int) := by omega
      go_wp2_with fail
      go_loopw [6] (fun v W => ∃ j : Nat, v = .int .i64 (j : Int) ∧ j ≤ l.length ∧ s[k] ∉ l.take j ∧ Below w.heap.size w W) (fun v _ => l.length - (intOf v).toNat)
      case atStart => exact ⟨0, rfl, Nat.zero_le _, by simp, hb'.out⟩
      case round =>
        obtain ⟨j, rfl, hj, hnj, hbj⟩ := hrel
        have hnj' := Lib.hid hnj
        have hbj' := Lib.hid hbj
        clear hnj hbj hb'
        by_cases hjt : j < l.length
        · have hjtI : (j : Int) < (l.length : Int) := by omega
          by_cases he : s[k] = l[j]
          · have hne : ((((⟨s.toArray⟩ : ByteArray)[k]'hlt).toNat : Int) == (((⟨l.toArray⟩ : ByteArray)[j]'hjt).toNat : Int)) = true := by
              rw [byE s k hlt, byE l j hjt, he, beq_iff_eq]
            have hres := Lib.hid (hasB_yes hlt hjt he)
            clear he
            go_wp2_with fail
            go_quiet (fail)
            go_wp2_with fail
            go_ret
            exact ⟨by rw [hres.out]; rfl, below_draws hbj'.out _⟩
          · have hne : ((((⟨s.toArray⟩ : ByteArray)[k]'hlt).toNat : Int) == (((⟨l.toArray⟩ : ByteArray)[j]'hjt).toNat : Int)) = false := by
              rw [byE s k hlt, byE l j hjt, beq_eq_false_iff_ne]
              intro e
              exact he (UInt8.toNat_inj.1 (by omega))
            have hnx := Lib.hid (not_in_next hnj'.out hjt he)
            clear he
            go_wp2_with fail
            go_quiet (fail)
            go_wp2_with fail
            exact ⟨⟨j + 1, by go_num, by omega, hnx.out, below_draws hbj'.out _⟩, by simp [intOf]; omega⟩
        · obtain rfl : j = l.length := by omega
          have hnx := Lib.hid (show ∀ b ∈ s.take (k + 1), b ∉ l by
            intro b hb
            rw [List.take_succ_eq_append_getElem hlt, List.mem_append] at hb
            rcases hb with hb | hb
            · exact hno'.out b hb
            · obtain rfl : b = s[k] := by simpa using hb
              have := hnj'.out
              rwa [List.take_length] at this)
          go_wp2_with fail
          exact ⟨⟨k + 1, by go_num, by omega, hnx.out, hbj'.out⟩, by simp [intOf]; omega⟩
    · obtain rfl : k = s.length := by omega
      have hres := Lib.hid (hasB_no (s := s) (l := l) (by have := hno'.out; rwa [List.take_length] at this))
      go_wp2_with fail
      go_ret
      exact ⟨by rw [hres.out]; rfl, hb'.out⟩
theorem carryB {P : Program} {k : FuncId} {args : Array Value} {v : Value} (w0 w : World) (hb : Below w0.heap.size w0 w) (h : Calls P k args w fun e w' => e = .returned v ∧ Below w.heap.size w w') : Calls P k args w fun e w' => e = .returned v ∧ Below w0.heap.size w0 w' := by
  refine h.mono ?_
  rintro e w' ⟨rfl, h⟩
  exact ⟨rfl, hb.trans (h.mono hb.size)⟩
set_option maxRecDepth 100000 in
set_option maxHeartbeats 4000000 in
theorem refRightE_any (e : Ev) (w : World) (hl : e.1.length + e.2.1.length + e.2.2.length ≤ 65536) : Calls Tryz.prog 21 #[evV e] w fun r w' => r = .returned (.bool (rightE e)) ∧ Below w.heap.size w w' := by
  have hd : refRight e = rightE e := refRight_eq e hl
  obtain ⟨a, b, c⟩ := e
  simp only at hl
  have hb1 : Below w.heap.size w (w.alloc (.cells (evCells (a, b, c)) 37)) := (Below.refl _ _).alloc (Nat.le_refl _) _
  have hk := Has.new w 37 (evCells (a, b, c))
  have s1 := Lib.hid (fun W (hb : Below (w.alloc (.cells (evCells (a, b, c)) 37)).heap.size (w.alloc (.cells (evCells (a, b, c)) 37)) W) => carryB _ W hb (refSound_any ⟨a.toArray⟩ W (by show a.toArray.size ≤ _; simp; omega)))
  have s2 := Lib.hid (fun W (hb : Below (w.alloc (.cells (evCells (a, b, c)) 37)).heap.size (w.alloc (.cells (evCells (a, b, c)) 37)) W) => carryB _ W hb (refSound_any ⟨b.toArray⟩ W (by show b.toArray.size ≤ _; simp; omega)))
  have s3 := Lib.hid (fun W (hb : Below (w.alloc (.cells (evCells (a, b, c)) 37)).heap.size (w.alloc (.cells (evCells (a, b, c)) 37)) W) => carryB _ W hb (refSound_any ⟨c.toArray⟩ W (by show c.toArray.size ≤ _; simp; omega)))
  rw [show (⟨a.toArray⟩ : ByteArray).data.toList = a from rfl] at s1
  rw [show (⟨b.toArray⟩ : ByteArray).data.toList = b from rfl] at s2
  rw [show (⟨c.toArray⟩ : ByteArray).data.toList = c from rfl] at s3
  have t1 := Lib.hid (fun W (hb : Below (w.alloc (.cells (evCells (a, b, c)) 37)).heap.size (w.alloc (.cells (evCells (a, b, c)) 37)) W) => carryB _ W hb (refHas_any a [0, 13, 10] W (by omega) (by decide)))
  have t2 := Lib.hid (fun W (hb : Below (w.alloc (.cells (evCells (a, b, c)) 37)).heap.size (w.alloc (.cells (evCells (a, b, c)) 37)) W) => carryB _ W hb (refHas_any b [13, 10] W (by omega) (by decide)))
  have t3 := Lib.hid (fun W (hb : Below (w.alloc (.cells (evCells (a, b, c)) 37)).heap.size (w.alloc (.cells (evCells (a, b, c)) 37)) W) => carryB _ W hb (refHas_any c [13] W (by omega) (by decide)))
  have hall := fun W (hb : Below (w.alloc (.cells (evCells (a, b, c)) 37)).heap.size (w.alloc (.cells (evCells (a, b, c)) 37)) W) => hk.below hb hk.lt
  have hb1' := Lib.hid hb1
  have r1 : decide ((65536 : Int) < (a.length : Int)) = false := decide_eq_false (by omega)
  have r2 : decide ((65536 : Int) < (b.length : Int)) = false := decide_eq_false (by omega)
  have r3 : decide ((65536 : Int) < (c.length : Int)) = false := decide_eq_false (by omega)
  have r4 : decide ((65536 : Int) < (a.length : Int) + (b.length : Int) + (c.length : Int)) = false := decide_eq_false (by omega)
  have q1 : decide (65536 < a.length) = false := decide_eq_false (by omega)
  have q2 : decide (65536 < b.length) = false := decide_eq_false (by omega)
  have q3 : decide (65536 < c.length) = false := decide_eq_false (by omega)
  have q4 : decide (65536 < a.length + b.length + c.length) = false := decide_eq_false (by omega)
  have z0 := hk.cell 0
  have z1 := hk.cell 1
  have z2 := hk.cell 2
  unfold evV evCells at *
  simp only [World.size_alloc] at s1 s2 s3 t1 t2 t3 hall
  obtain ⟨wA, hwA⟩ : ∃ wA, w.alloc (.cells #[.string ⟨a.toArray⟩, .string ⟨b.toArray⟩, .string ⟨c.toArray⟩] 37) = wA := ⟨_, rfl⟩
  obtain ⟨nA, hnA⟩ : ∃ nA, w.heap.size = nA := ⟨_, rfl⟩
  rw [hwA] at s1 s2 s3 t1 t2 t3 hb1' hk z0 z1 z2 hall
  have hall' := Lib.hid hall
  have hd' := Lib.hid hd
  have hnA' := Lib.hid hnA
  have hwA' := Lib.hid hwA
  clear hb1 hall hd hk hnA hwA
  unfold refRight at hd'
  simp only at hd'
  obtain ⟨B1, e1⟩ : ∃ B1, hasB a [0, 13, 10] = B1 := ⟨_, rfl⟩
  obtain ⟨B2, e2⟩ : ∃ B2, hasB b [13, 10] = B2 := ⟨_, rfl⟩
  obtain ⟨B3, e3⟩ : ∃ B3, hasB c [13] = B3 := ⟨_, rfl⟩
  obtain ⟨B4, e4⟩ : ∃ B4, soundB a = B4 := ⟨_, rfl⟩
  obtain ⟨B5, e5⟩ : ∃ B5, soundB b = B5 := ⟨_, rfl⟩
  obtain ⟨B6, e6⟩ : ∃ B6, soundB c = B6 := ⟨_, rfl⟩
  rw [e1] at t1 hd'
  rw [e2] at t2 hd'
  rw [e3] at t3 hd'
  rw [e4] at s1 hd'
  rw [e5] at s2 hd'
  rw [e6] at s3 hd'
  clear e1 e2 e3 e4 e5 e6
  obtain ⟨R, hR⟩ : ∃ R, rightE (a, b, c) = R := ⟨_, rfl⟩
  rw [hR] at hd' ⊢
  clear hR
  cases B1 with
  | true =>
    go_enter Tryz.func21, Tryz.ntmps21
    go_wp2_with fail
    rw [hwA'.out]
    go_wp2_with (first
      | (go_at_call 36; (with_reducible refine Calls.mono (t1.out _ (Below.refl _ _)) ?_); rintro r y0 ⟨rfl, hd0⟩; have hc0 := Lib.hid hd0; clear hd0; have v0 := hall'.out _ hc0.out; have a0 := v0.cell 0; have b0 := v0.cell 1; have d0 := v0.cell 2; clear v0))
    go_ret
    refine ⟨by rw [← hd'.out]; rfl, ?_⟩
    exact hb1'.out.trans (hc0.out.mono (by simp))
  | false =>
    cases B2 with
    | true =>
      go_enter Tryz.func21, Tryz.ntmps21
      go_wp2_with fail
      rw [hwA'.out]
      go_wp2_with (first
        | (go_at_call 36; (with_reducible refine Calls.mono (t2.out _ hc0.out) ?_); rintro r y1 ⟨rfl, hd1⟩; have hc1 := Lib.hid hd1; clear hd1; have v1 := hall'.out _ hc1.out; have a1 := v1.cell 0; have b1 := v1.cell 1; have d1 := v1.cell 2; clear v1)
        | (go_at_call 36; (with_reducible refine Calls.mono (t1.out _ (Below.refl _ _)) ?_); rintro r y0 ⟨rfl, hd0⟩; have hc0 := Lib.hid hd0; clear hd0; have v0 := hall'.out _ hc0.out; have a0 := v0.cell 0; have b0 := v0.cell 1; have d0 := v0.cell 2; clear v0))
      go_ret
      refine ⟨by rw [← hd'.out]; rfl, ?_⟩
      exact hb1'.out.trans (hc1.out.mono (by simp))
    | false =>
      cases B3 with
      | true =>
        go_enter Tryz.func21, Tryz.ntmps21
        go_wp2_with fail
        rw [hwA'.out]
        go_wp2_with (first
          | (go_at_call 36; (with_reducible refine Calls.mono (t3.out _ hc1.out) ?_); rintro r y2 ⟨rfl, hd2⟩; have hc2 := Lib.hid hd2; clear hd2; have v2 := hall'.out _ hc2.out; have a2 := v2.cell 0; have b2 := v2.cell 1; have d2 := v2.cell 2; clear v2)
          | (go_at_call 36; (with_reducible refine Calls.mono (t2.out _ hc0.out) ?_); rintro r y1 ⟨rfl, hd1⟩; have hc1 := Lib.hid hd1; clear hd1; have v1 := hall'.out _ hc1.out; have a1 := v1.cell 0; have b1 := v1.cell 1; have d1 := v1.cell 2; clear v1)
          | (go_at_call 36; (with_reducible refine Calls.mono (t1.out _ (Below.refl _ _)) ?_); rintro r y0 ⟨rfl, hd0⟩; have hc0 := Lib.hid hd0; clear hd0; have v0 := hall'.out _ hc0.out; have a0 := v0.cell 0; have b0 := v0.cell 1; have d0 := v0.cell 2; clear v0))
        go_ret
        refine ⟨by rw [← hd'.out]; rfl, ?_⟩
        exact hb1'.out.trans (hc2.out.mono (by simp))
      | false =>
        cases B4 with
        | false =>
          go_enter Tryz.func21, Tryz.ntmps21
          go_wp2_with fail
          rw [hwA'.out]
          go_wp2_with (first
            | (go_at_call 37; (with_reducible refine Calls.mono (s1.out _ hc2.out) ?_); rintro r y3 ⟨rfl, hd3⟩; have hc3 := Lib.hid hd3; clear hd3; have v3 := hall'.out _ hc3.out; have a3 := v3.cell 0; have b3 := v3.cell 1; have d3 := v3.cell 2; clear v3)
            | (go_at_call 36; (with_reducible refine Calls.mono (t3.out _ hc1.out) ?_); rintro r y2 ⟨rfl, hd2⟩; have hc2 := Lib.hid hd2; clear hd2; have v2 := hall'.out _ hc2.out; have a2 := v2.cell 0; have b2 := v2.cell 1; have d2 := v2.cell 2; clear v2)
            | (go_at_call 36; (with_reducible refine Calls.mono (t2.out _ hc0.out) ?_); rintro r y1 ⟨rfl, hd1⟩; have hc1 := Lib.hid hd1; clear hd1; have v1 := hall'.out _ hc1.out; have a1 := v1.cell 0; have b1 := v1.cell 1; have d1 := v1.cell 2; clear v1)
            | (go_at_call 36; (with_reducible refine Calls.mono (t1.out _ (Below.refl _ _)) ?_); rintro r y0 ⟨rfl, hd0⟩; have hc0 := Lib.hid hd0; clear hd0; have v0 := hall'.out _ hc0.out; have a0 := v0.cell 0; have b0 := v0.cell 1; have d0 := v0.cell 2; clear v0))
          go_ret
          refine ⟨by rw [← hd'.out]; rfl, ?_⟩
          exact hb1'.out.trans (hc3.out.mono (by simp))
        | true =>
          cases B5 with
          | false =>
            go_enter Tryz.func21, Tryz.ntmps21
            go_wp2_with fail
            rw [hwA'.out]
            go_wp2_with (first
              | (go_at_call 37; (with_reducible refine Calls.mono (s2.out _ hc3.out) ?_); rintro r y4 ⟨rfl, hd4⟩; have hc4 := Lib.hid hd4; clear hd4; have v4 := hall'.out _ hc4.out; have a4 := v4.cell 0; have b4 := v4.cell 1; have d4 := v4.cell 2; clear v4)
              | (go_at_call 37; (with_reducible refine Calls.mono (s1.out _ hc2.out) ?_); rintro r y3 ⟨rfl, hd3⟩; have hc3 := Lib.hid hd3; clear hd3; have v3 := hall'.out _ hc3.out; have a3 := v3.cell 0; have b3 := v3.cell 1; have d3 := v3.cell 2; clear v3)
              | (go_at_call 36; (with_reducible refine Calls.mono (t3.out _ hc1.out) ?_); rintro r y2 ⟨rfl, hd2⟩; have hc2 := Lib.hid hd2; clear hd2; have v2 := hall'.out _ hc2.out; have a2 := v2.cell 0; have b2 := v2.cell 1; have d2 := v2.cell 2; clear v2)
              | (go_at_call 36; (with_reducible refine Calls.mono (t2.out _ hc0.out) ?_); rintro r y1 ⟨rfl, hd1⟩; have hc1 := Lib.hid hd1; clear hd1; have v1 := hall'.out _ hc1.out; have a1 := v1.cell 0; have b1 := v1.cell 1; have d1 := v1.cell 2; clear v1)
              | (go_at_call 36; (with_reducible refine Calls.mono (t1.out _ (Below.refl _ _)) ?_); rintro r y0 ⟨rfl, hd0⟩; have hc0 := Lib.hid hd0; clear hd0; have v0 := hall'.out _ hc0.out; have a0 := v0.cell 0; have b0 := v0.cell 1; have d0 := v0.cell 2; clear v0))
            go_ret
            refine ⟨by rw [← hd'.out]; rfl, ?_⟩
            exact hb1'.out.trans (hc4.out.mono (by simp))
          | true =>
            cases B6 with
            | false =>
              go_enter Tryz.func21, Tryz.ntmps21
              go_wp2_with fail
              rw [hwA'.out]
              go_wp2_with (first
                | (go_at_call 37; (with_reducible refine Calls.mono (s3.out _ hc4.out) ?_); rintro r y5 ⟨rfl, hd5⟩; have hc5 := Lib.hid hd5; clear hd5)
                | (go_at_call 37; (with_reducible refine Calls.mono (s2.out _ hc3.out) ?_); rintro r y4 ⟨rfl, hd4⟩; have hc4 := Lib.hid hd4; clear hd4; have v4 := hall'.out _ hc4.out; have a4 := v4.cell 0; have b4 := v4.cell 1; have d4 := v4.cell 2; clear v4)
                | (go_at_call 37; (with_reducible refine Calls.mono (s1.out _ hc2.out) ?_); rintro r y3 ⟨rfl, hd3⟩; have hc3 := Lib.hid hd3; clear hd3; have v3 := hall'.out _ hc3.out; have a3 := v3.cell 0; have b3 := v3.cell 1; have d3 := v3.cell 2; clear v3)
                | (go_at_call 36; (with_reducible refine Calls.mono (t3.out _ hc1.out) ?_); rintro r y2 ⟨rfl, hd2⟩; have hc2 := Lib.hid hd2; clear hd2; have v2 := hall'.out _ hc2.out; have a2 := v2.cell 0; have b2 := v2.cell 1; have d2 := v2.cell 2; clear v2)
                | (go_at_call 36; (with_reducible refine Calls.mono (t2.out _ hc0.out) ?_); rintro r y1 ⟨rfl, hd1⟩; have hc1 := Lib.hid hd1; clear hd1; have v1 := hall'.out _ hc1.out; have a1 := v1.cell 0; have b1 := v1.cell 1; have d1 := v1.cell 2; clear v1)
                | (go_at_call 36; (with_reducible refine Calls.mono (t1.out _ (Below.refl _ _)) ?_); rintro r y0 ⟨rfl, hd0⟩; have hc0 := Lib.hid hd0; clear hd0; have v0 := hall'.out _ hc0.out; have a0 := v0.cell 0; have b0 := v0.cell 1; have d0 := v0.cell 2; clear v0))
              go_ret
              refine ⟨by rw [← hd'.out]; rfl, ?_⟩
              exact hb1'.out.trans (hc5.out.mono (by simp))
            | true =>
              go_enter Tryz.func21, Tryz.ntmps21
              go_wp2_with fail
              rw [hwA'.out]
              go_wp2_with (first
                | (go_at_call 37; (with_reducible refine Calls.mono (s3.out _ hc4.out) ?_); rintro r y5 ⟨rfl, hd5⟩; have hc5 := Lib.hid hd5; clear hd5)
                | (go_at_call 37; (with_reducible refine Calls.mono (s2.out _ hc3.out) ?_); rintro r y4 ⟨rfl, hd4⟩; have hc4 := Lib.hid hd4; clear hd4; have v4 := hall'.out _ hc4.out; have a4 := v4.cell 0; have b4 := v4.cell 1; have d4 := v4.cell 2; clear v4)
                | (go_at_call 37; (with_reducible refine Calls.mono (s1.out _ hc2.out) ?_); rintro r y3 ⟨rfl, hd3⟩; have hc3 := Lib.hid hd3; clear hd3; have v3 := hall'.out _ hc3.out; have a3 := v3.cell 0; have b3 := v3.cell 1; have d3 := v3.cell 2; clear v3)
                | (go_at_call 36; (with_reducible refine Calls.mono (t3.out _ hc1.out) ?_); rintro r y2 ⟨rfl, hd2⟩; have hc2 := Lib.hid hd2; clear hd2; have v2 := hall'.out _ hc2.out; have a2 := v2.cell 0; have b2 := v2.cell 1; have d2 := v2.cell 2; clear v2)
                | (go_at_call 36; (with_reducible refine Calls.mono (t2.out _ hc0.out) ?_); rintro r y1 ⟨rfl, hd1⟩; have hc1 := Lib.hid hd1; clear hd1; have v1 := hall'.out _ hc1.out; have a1 := v1.cell 0; have b1 := v1.cell 1; have d1 := v1.cell 2; clear v1)
                | (go_at_call 36; (with_reducible refine Calls.mono (t1.out _ (Below.refl _ _)) ?_); rintro r y0 ⟨rfl, hd0⟩; have hc0 := Lib.hid hd0; clear hd0; have v0 := hall'.out _ hc0.out; have a0 := v0.cell 0; have b0 := v0.cell 1; have d0 := v0.cell 2; clear v0))
              go_ret
              refine ⟨by rw [← hd'.out]; rfl, ?_⟩
              exact hb1'.out.trans (hc5.out.mono (by simp))
end Go.Proofs.YtlcfpnegpihicaaGreatDoor

namespace Go.Proofs.YtlcfpnegpihicaaGreatDoor
open Go.RowKit Go.Shelf
attribute [local go_sem] Oper.semAt_some

/-! ## The stage's theorem: however bytes come in pieces, the same is said -/
set_option maxRecDepth 100000 in
theorem pieces_works (z y : Int) (A B : Option Addr) (len cap len2 cap2 : Nat) (w : World) (hT : PsT0 w) (hl : 400 < len) (hm : len ≤ maxLen) :
    Calls Tryz.prog 5 #[.int .i64 z, .int .i64 y, .slice A len cap, .slice B len2 cap2] w fun e w' => e = .returned (.bool true) ∧ Below w.heap.size w w' := by
  unfold maxLen at hm
  have hw := Lib.hid (worksPs_any w hT)
  have h1i : (400 : Int) < (len : Int) := by omega
  clear hT
  go_enter Tryz.func5, Tryz.ntmps5
  go_wp2_with (go_at_call 6; refine hw.out.mono ?_; rintro e w9 ⟨rfl, hb9⟩)
  go_ret
  exact ⟨rfl, hb9⟩
set_option maxRecDepth 100000 in
theorem pieces_no (z y : Int) (A B : Option Addr) (len cap len2 cap2 : Nat) (w : World) (hT : PsT0 w) (hl : len ≤ 400) (hz : (z < 1 ∨ 65536 < z) ∨ (y < 1 ∨ 65536 < y)) :
    Calls Tryz.prog 5 #[.int .i64 z, .int .i64 y, .slice A len cap, .slice B len2 cap2] w fun e w' => e = .returned (.bool true) ∧ Below w.heap.size w w' := by
  have hT' := Lib.hid hT
  have h1i : ¬ (400 : Int) < (len : Int) := by omega
  have hn := Lib.hid (newPs_no z y w hT.g hz)
  have ho := Lib.hid (fun W (hG : GrT W) => ofPs_no z y A len cap W hG hz)
  clear hT hz
  go_enter Tryz.func5, Tryz.ntmps5
  go_wp2_with (first
    | (go_at_call 12; (with_reducible refine Calls.mono hn.out ?_); rintro e w1 ⟨rfl, hb1⟩; have hb1' := Lib.hid hb1; clear hb1)
    | (go_at_call 7; (with_reducible refine Calls.mono (ho.out _ (hT'.out.below hb1'.out).g) ?_); rintro e w2 ⟨rfl, hb2⟩; have hb2' := Lib.hid (belowP_at hb1'.out hb2 hb1'.out.size); clear hb2)
    | (go_at_call 11; (with_reducible refine Calls.mono (numPs_any _ _) ?_); rintro e w' ⟨rfl, rfl⟩)
    | (go_at_call 6; (with_reducible refine Calls.mono (worksPs_any _ (hT'.out.below hb2'.out)) ?_); rintro e w9 ⟨rfl, hb9⟩))
  go_ret
  exact ⟨rfl, belowP_at hb2'.out hb9 hb2'.out.size⟩
/-- What a round rests on. -/
def HlP (w w2 : World) (p most m : Nat) (bs : List UInt8) (all : List Sd) (A2 : Option Addr) (ka c2 : Nat) (at_ : Nat) (v : Value) (W : World) : Prop :=
  Sds W w2.heap.size v (saysP most m init0 (prNew []) (bs.take at_)) ∧ PrO W w.heap.size p most m (stepC most init0 (bs.take at_)).2 (nextP most m init0 (prNew []) (bs.take at_)) ∧ (SdK W A2 ka c2 all ∧ ∀ g, (Value.slice A2 ka c2).ownBlock = some g → g < w2.heap.size) ∧ Below w.heap.size w W ∧ w2.heap.size ≤ W.heap.size
set_option maxRecDepth 100000 in
set_option maxHeartbeats 8000000 in
theorem lawPieces (most m : Nat) (A B : Option Addr) (k cap k2 cap2 : Nat) (bs cs : List UInt8) (w : World) (hT : PsT0 w) (hk : k = bs.length) (hk2 : k2 = cs.length) (hA : Rd w (· < w.heap.size) A bs) (hB : Rd w (· < w.heap.size) B cs)
    (hl : k ≤ 400) (h1 : 1 ≤ most) (h2 : most ≤ 65536) (h3 : 1 ≤ m) (h4 : m ≤ 65536) (hc : k ≤ cap) (hcm : cap ≤ maxLen) (hm2m : k2 ≤ maxLen) :
    Calls Tryz.prog 5 #[.int .i64 (most : Int), .int .i64 (m : Int), .slice A k cap, .slice B k2 cap2] w fun e w' => e = .returned (.bool true) ∧ Below w.heap.size w w' := by
  unfold maxLen at hcm hm2m
  have hT' := Lib.hid hT
  have hk' := Lib.hid hk
  have hk2' := Lib.hid hk2
  have hA' := Lib.hid hA
  have hB' := Lib.hid hB
  have hi0 : ¬ (400 : Int) < (k : Int) := by omega
  have hnw := Lib.hid (newPs_yes w.heap.size most m w hT.g h1 h2 h3 h4)
  have hof := Lib.hid (fun W (hb : Below w.heap.size w W) => ofPs_yes 0 most m k cap A bs W h1 h2 h3 h4 hk hc (by omega) (by omega) ((hA.kept (Kept.below hb (fun _ h => h))).mono (fun b h => Nat.lt_of_lt_of_le h hb.size)) (hT.below hb).g (hT.below hb).f (hT.below hb).low)
  clear hT hk hk2 hA hB
  go_enter Tryz.func5, Tryz.ntmps5
  go_wp2_with (go_at_call 12; (with_reducible refine Calls.mono hnw.out ?_); rintro e w1 ⟨p, rfl, hm⟩; have hb1' := Lib.hid hm.choose_spec.choose_spec.2.2.2.2.2; have hs1' := Lib.hid (hm.own (Nat.le_refl _)); clear hm)
  refine (hof.out _ hb1'.out).mono ?_
  rintro e w2 ⟨v2, rfl, g1, g2⟩
  obtain ⟨A2, c2, rfl, _⟩ := g1.shape
  have z1 := hb1'.out.size
  have hb2' := Lib.hid (belowP_at hb1'.out g2 z1)
  have hs2' := Lib.hid (hs1'.out.below g2)
  have z2 := hb2'.out.size
  obtain ⟨all, hall⟩ : ∃ all, saysP most m init0 (prNew []) bs = all := ⟨_, rfl⟩
  have hall' := Lib.hid hall
  rw [hall] at g1
  obtain ⟨ka, hka⟩ : ∃ ka, all.length = ka := ⟨_, rfl⟩
  have g1' := Lib.hid g1
  rw [hall, hka]
  have hka' := Lib.hid hka
  clear g1 g2 hall hka hof hnw
  go_wp2_with (go_at_call 11; (with_reducible refine Calls.mono (numPs_any _ _) ?_); rintro e w' ⟨rfl, rfl⟩)
  go_loopw [13, 14, 15] (fun x13 x14 x15 W => ∃ (at_ i : Nat), x14 = .int .i64 (at_ : Int) ∧ x15 = .int .i64 (i : Int) ∧ at_ ≤ k ∧ i ≤ 5001 ∧ HlP w w2 p most m bs all A2 ka c2 at_ x13 W) (fun _ _ x15 _ => 5002 - (intOf x15).toNat)
  case atStart =>
    have gx := g1'.out
    rw [hka'.out] at gx
    refine ⟨0, 0, rfl, rfl, Nat.zero_le _, by omega, ?_, ?_, ⟨⟨_, gx⟩, fun g hg => (gx.own g hg).2.choose_spec.lt⟩, hb2'.out, Nat.le_refl _⟩
    · rw [List.take_zero, saysP_nil (init0_ok most)]; exact sds_nil _ _
    · rw [List.take_zero, nextP_nil (init0_ok most), stepC_nil (init0_ok most)]; exact hs2'.out
  case round =>
    obtain ⟨at_, i, rfl, rfl, hat, hi, hv, hS, hK, hBW, hz2w⟩ := hrel
    have hv' := Lib.hid hv
    have hS' := Lib.hid hS
    have hK' := Lib.hid hK
    have hBW' := Lib.hid hBW
    have hzw := hBW.size
    clear hv hS hK hBW
    by_cases hlt : at_ < k ∧ i ≤ 5000
    · obtain ⟨hlt, hi5⟩ := hlt
      have hi5i : (i : Int) ≤ 5000 := by omega
      have hlti : (at_ : Int) < (k : Int) := by omega
      obtain ⟨ad, had, _⟩ := hA'.out (by have := hk'.out; omega)
      subst had
      go_upto_if 62 with (fail)
      go_cut [16] from 59 to 73 (fun s16 wx => ∃ q : Nat, s16 = .int .i64 (q : Int) ∧ q ≤ k - at_ ∧ wr = wx)
      case first =>
        by_cases hil : i < k2
        · obtain ⟨ad2, had2, hblt, hcell⟩ := hB'.out (by have := hk2'.out; omega)
          subst had2
          have hic : i < cs.length := by have := hk2'.out; omega
          have hci := hcell i (byt cs[i]) (byts_at hic)
          have hci2 : wr.cell? (ad2.add i) = some (byt cs[i]) := (hBW'.out.cell (p := ad2.add i) (by rw [add_block_]; exact hblt)).trans hci
          unfold byt at hci2
          have hb256 := (show cs[i].toNat < 256 from cs[i].toNat_lt)
          have hili : (i : Int) < (k2 : Int) := by omega
          obtain ⟨q, hq⟩ : ∃ q, (cs[i].toNat : Int) % 9 = ((q : Nat) : Int) := ⟨cs[i].toNat % 9, by omega⟩
          generalize cs[i].toNat = cn at hci2 hq hb256
          clear hci hcell
          go_wp2_with fail
          go_meet
          case rel =>
            exact ⟨min q (k - at_), by simp; omega, by omega, rfl⟩
        · have hili : ¬ (i : Int) < (k2 : Int) := by omega
          have hi1' : decide (i < k2) = false := by simpa using hil
          go_wp2_with fail
          go_meet
          case rel => exact ⟨1, rfl, by omega, rfl⟩
      case rest =>
        obtain ⟨q, rfl, hq, hww⟩ := hcut
        subst hww
        have hm1 := saysP_more most m bs at_ q
        have hm2 := nextP_more most m bs at_ q
        have hm3 := stepC_moreP most bs at_ q
        have hok := stepC_ok (init0_ok most) (bs.take at_)
        have hpk := nextP_ok (init0_ok most) (prNil_ok m most) (bs.take at_)
        have hpl := nextP_last (m := m) (s := prNew []) (init0_ok most) h2 (Nat.zero_le _) (bs.take at_)
        have hcnt := saysP_count (most := most) (m := m) init0 (prNew []) (bs.take at_)
        have hw3 : (stepC most init0 (bs.take at_)).2.ws.length ≤ 3 := run_three _
        obtain ⟨x, hx⟩ : ∃ x, (bs.drop at_).take q = x := ⟨_, rfl⟩
        have hxl : q = x.length := by rw [← hx, List.length_take, List.length_drop]; have := hk'.out; omega
        rw [hx] at hm1 hm2 hm3
        have hrd := ((hA'.out.kept (Kept.below hBW'.out (fun _ h => h))).mono (S' := fun k => k < wr.heap.size ∧ (k < w.heap.size ∨ wr.heap.size ≤ k)) (fun b hb => by have hb : b < w.heap.size := hb; exact ⟨by omega, .inl hb⟩)).drop at_ cap (by have := hk'.out; omega)
        rw [if_neg (by omega)] at hrd
        have hrd2 := hrd.take q
        rw [hx] at hrd2
        have hvx := hv'.out
        have hSx := hS'.out
        obtain ⟨st, hst⟩ : ∃ st, (stepC most init0 (bs.take at_)).2 = st := ⟨_, rfl⟩
        obtain ⟨ss, hss⟩ : ∃ ss, nextP most m init0 (prNew []) (bs.take at_) = ss := ⟨_, rfl⟩
        obtain ⟨ts, hts⟩ : ∃ ts, saysP most m init0 (prNew []) (bs.take at_) = ts := ⟨_, rfl⟩
        rw [hst, hss, hts] at hm1
        rw [hst, hss] at hm2
        rw [hst] at hm3 hok hw3
        rw [hss] at hpk hpl
        rw [hts] at hcnt hvx
        rw [hst, hss] at hSx
        have hpk2 := nextP_ok hok hpk x
        have hcnt2 := saysP_count (most := most) (m := m) st ss x
        have hwrt := writeO_any w.heap.size p most m st ss x (some (ad.add at_)) q (cap - at_) wr wr hSx (Below.refl _ _) hok hpk hpl h1 h2 h4 hxl (by omega) (by omega) (by omega) hrd2 (hT'.out.below hBW'.out).f hT'.out.low hzw
        have hlens : Hid (ts.length + (saysP most m st ss x).length ≤ 1000000000) := Lib.hid (by
          have hz : (bs.take at_).length ≤ 400 := by rw [List.length_take]; omega
          have hz2 : init0.ws.length = 0 := rfl
          omega)
        have hq2 : q ≤ k := by omega
        have hqi : (at_ : Int) + (q : Int) ≤ (k : Int) := by omega
        have hqc : (at_ : Int) + (q : Int) ≤ (cap : Int) := by omega
        have hac : (at_ : Int) < (cap : Int) := by omega
        have hvx' := Lib.hid hvx
        have hm1' := Lib.hid hm1
        have hm2' := Lib.hid hm2
        have hm3' := Lib.hid hm3
        have hwrt' := Lib.hid hwrt
        have hpk2' := Lib.hid hpk2
        have hqm' := Lib.hid hq
        clear hm1 hm2 hm3 hok hpk hpl hcnt hw3 hx hxl hrd hrd2 hvx hSx hst hss hts hcnt2 hwrt hq hpk2
        obtain ⟨ls2, hls2⟩ : ∃ ls2, saysP most m st ss x = ls2 := ⟨_, rfl⟩
        go_wp2_with fail
        refine hwrt'.out.mono ?_
        rintro e w3 ⟨v3, rfl, q1, q2, q3, q4⟩
        rw [hls2] at q1 hlens
        obtain ⟨A3, c3, rfl, q5⟩ := q1.shape
        obtain ⟨k3, hk3⟩ : ∃ k3, ls2.length = k3 := ⟨_, rfl⟩
        rw [hk3]
        have hk3' := Lib.hid hk3.symm
        have hwt' := Lib.hid (waitsO_any w.heap.size p most m _ _ w3 q2 h1 hpk2'.out h2 h4)
        have q2' := Lib.hid q2
        have q3' := Lib.hid (hBW'.out.trans q3)
        have q5' := Lib.hid q5
        have hv2 := Lib.hid (q4 _ _ _ hvx'.out)
        have hK2 := Lib.hid (show SdK w3 A2 ka c2 all from (by obtain ⟨⟨n0, h⟩, _⟩ := hK'.out; exact ⟨n0, q4 _ _ _ h⟩))
        have hls2' := Lib.hid hls2
        have z3 := q3'.out.size
        have zr3 := q3.size
        clear q1 q2 q3 q4 q5 hk3 hls2
        go_wp2_with (first
          | (go_at_call 11; (with_reducible refine Calls.mono (numPs_any _ _) ?_); rintro e w' ⟨rfl, rfl⟩)
          | (go_at_call 19; (with_reducible refine Calls.mono hwt'.out ?_); rintro e w4 ⟨qq, hqq, rfl, hb4⟩; have hqn : ¬ (m : Int) + 2 * (most : Int) + 2 < (qq : Int) := (by omega); have hb4' := Lib.hid hb4; have hv4 := Lib.hid (hv2.out.below hb4); have q54 := Lib.hid (q5'.out.below hb4); have z4 := hb4.size; clear hb4)
          | (at_builtin; refine wpList_append_sds rfl _ _ rfl rfl hv4.out A3 ls2 k3 c3 hk3'.out rfl q54.out hlens.out (by omega) ?_; intro v5 w5 hv5 hg5; have hv5' := Lib.hid hv5; have hg5' := Lib.hid hg5; clear hv5 hg5))
        have hb34 : Below w.heap.size w w4 := belowP_at q3'.out hb4'.out z3
        have hbe : Below w.heap.size w w5 := hb34.grown hg5'.out (by omega) (fun g e => by have := (hv4.out.own g e).1; omega)
        have z5 := hg5'.out.size
        have hwz := q3'.out.size
        refine ⟨⟨at_ + q, i + 1, by go_num, by go_num, by omega, by omega, ?_, ?_, ⟨?_, hK'.out.2⟩, hbe, by omega⟩, by simp [intOf]; omega⟩
        · rw [hm1'.out, hls2'.out]
          exact hv5'.out
        · rw [hm2'.out, hm3'.out]
          obtain ⟨sp, dp, dv, ob, ⟨o1, o2, ⟨vb, b1, b2, b3, b4⟩, o4⟩, o5⟩ := q2'.out.below hb4'.out
          obtain ⟨_, hd⟩ := b3.typed
          have hgk : ∀ {k : Nat} {t : TypeId} {cs : Array Value}, Has w4 k t cs → t ≠ 40 → w5.heap[k]? = w4.heap[k]? := fun {k t cs} hh ht => hg5'.out.block k hh.lt (fun e => by
            obtain ⟨_, _, h8⟩ := hv4.out.own k e.symm
            exact hh.apart h8 ht rfl)
          have bk : ∀ {v : Value} {d : List UInt8}, Bs w4 w.heap.size v d → Bs w5 w.heap.size v d := fun h => h.kept (fun g hg => by obtain ⟨_, _, h8⟩ := h.own g hg; exact hgk h8 (by decide))
          exact ⟨sp, dp, dv, ob, ⟨(hgk o1 (by decide)).trans o1, bk o2, ⟨vb, (hgk b1 (by decide)).trans b1, bk b2, b3.kept (hgk hd (by decide)), b4⟩, o4⟩, o5⟩
        · obtain ⟨n0, h⟩ := hK2.out.below hb4'.out
          exact ⟨n0, h.kept (fun g hg => hg5'.out.block g (h.own g hg).2.choose_spec.lt (fun e => by
            have e1 := (hv4.out.own g e.symm).1
            have e2 := hK'.out.2 g hg
            omega))⟩
    · obtain ⟨A1, c1, rfl, hat1⟩ := hv'.out.shape
      obtain ⟨k1, hk1⟩ : ∃ k1, (saysP most m init0 (prNew []) (bs.take at_)).length = k1 := ⟨_, rfl⟩
      rw [hk1]
      have hk1' := Lib.hid hk1
      have hat1' := Lib.hid hat1
      have hgood' := Lib.hid (saysP_right (most := most) (init0_ok most) (prNil_ok m most) h4 bs)
      have hsd' := Lib.hid (saysP_sd (most := most) (m := m) (init0_ok most) (prNil_ok m most) h2 h4 (Nat.zero_le _) bs)
      rw [hall'.out] at hgood' hsd'
      clear hk1 hat1
      by_cases hak : at_ = k
      · subst hak
        have htk : bs.take at_ = bs := List.take_of_length_le (by have := hk'.out; omega)
        have hlti : ¬ (at_ : Int) < (at_ : Int) := by omega
        have hsd := saysP_sd (most := most) (m := m) (init0_ok most) (prNil_ok m most) h2 h4 (Nat.zero_le _) bs
        rw [hall'.out] at hsd
        have hl1 := hat1'.out
        have hl2 := hk1'.out
        rw [htk, hall'.out] at hl1 hl2
        obtain rfl : k1 = ka := by rw [← hl2, hka'.out]
        have hcnt := saysP_count (most := most) (m := m) init0 (prNew []) bs
        rw [hall'.out] at hcnt
        have hz2 : init0.ws.length = 0 := rfl
        have hka2 : k1 ≤ 1200 := by have := hk'.out; omega
        have hsm := Lib.hid (sameSd_yes A1 A2 all k1 c1 c2 wr hl2.symm hl1 hK'.out.1.at hsd (by omega))
        have hk1b : decide ((k1 : Int) = (k1 : Int)) = true := decide_eq_true rfl
        clear hsd hl1 hcnt htk
        go_wp2_with (first
          | (go_at_call 11; (with_reducible refine Calls.mono (numPs_any _ _) ?_); rintro e w' ⟨rfl, rfl⟩)
          | (go_at_call 10; (with_reducible refine Calls.mono hsm.out ?_); rintro e w3 ⟨rfl, hb3⟩; have hb3' := Lib.hid hb3; clear hb3))
        have hat0' := Lib.hid (hK'.out.1.at.below hb3'.out)
        have hB0' := Lib.hid (belowP_at hBW'.out hb3'.out hzw)
        have hn0' := Lib.hid hl2
        have hB0s := hB0'.out.size
        go_loopw [19] (fun x19 W => ∃ j : Nat, x19 = .int .i64 (j : Int) ∧ j ≤ k1 ∧ Below w3.heap.size w3 W) (fun x19 _ => k1 - (intOf x19).toNat)
        case atStart => exact ⟨0, rfl, Nat.zero_le _, Below.refl _ _⟩
        case round =>
          obtain ⟨j, rfl, hj, hbj⟩ := hrel
          have hbj' := Lib.hid hbj
          have hBj' := Lib.hid (belowP_at hB0'.out hbj hB0s)
          have hzj := hBj'.out.size
          clear hbj
          by_cases hjl : j < k1
          · have hjli : (j : Int) < (k1 : Int) := by omega
            obtain ⟨y, hy⟩ : ∃ y, all[j]? = some y := ⟨all[j]'(by have := hn0'.out; omega), List.getElem?_eq_getElem (by have := hn0'.out; omega)⟩
            have hyr := hgood'.out y (List.mem_of_getElem? hy)
            have hys := hsd'.out y (List.mem_of_getElem? hy)
            obtain ⟨g, hgA, hgl, d0, d1, d2, d3, d4⟩ := (hat0'.out.below hbj'.out) j _ hy
            obtain ⟨kd, ⟨a, b, c⟩, rt⟩ := y
            obtain ⟨_, _, l1, l2, l3⟩ := hys
            simp only at d0 d1 d2 d3 d4 hyr l1 l2 l3
            subst hgA
            clear d4 hy
            have hbx : Below wr.heap.size wr (wr.alloc (.cells #[.string ⟨a.toArray⟩, .string ⟨b.toArray⟩, .string ⟨c.toArray⟩] 37)) := (Below.refl _ _).alloc (Nat.le_refl _) _
            have hkx := Has.new wr 37 #[.string ⟨a.toArray⟩, .string ⟨b.toArray⟩, .string ⟨c.toArray⟩]
            have x0 := hkx.cell 0
            have x1 := hkx.cell 1
            have x2 := hkx.cell 2
            have d0b := (hbx.cell (p := ⟨g, j * 5, none⟩) hgl).trans d0
            by_cases hk1 : kd = 1
            · subst hk1
              obtain ⟨hr1, hr2⟩ := hyr rfl
              unfold sumE at hr2
              simp only at hr1 hr2
              have hrr0 := refRightE_any (a, b, c) (wr.alloc (.cells #[.string ⟨a.toArray⟩, .string ⟨b.toArray⟩, .string ⟨c.toArray⟩] 37)) (by simp only; omega)
              rw [hr1] at hrr0
              unfold evV evCells at hrr0
              have hrr := Lib.hid hrr0
              have hkx' := Lib.hid hkx
              have hbx' := Lib.hid hbx
              have hle : ¬ (m : Int) < (a.length : Int) + (b.length : Int) + (c.length : Int) := by omega
              clear hrr0 hkx hbx hyr hr1
              go_wp2_with (go_at_call 21; (with_reducible refine Calls.mono hrr.out ?_); rintro e wq ⟨rfl, hbq⟩; have y0 := (hkx'.out.below hbq hkx'.out.lt).cell 0; have y1 := (hkx'.out.below hbq hkx'.out.lt).cell 1; have y2 := (hkx'.out.below hbq hkx'.out.lt).cell 2; have hbq' := Lib.hid hbq; clear hbq)
              exact ⟨⟨j + 1, by go_num, by omega, belowP_at (belowP_at hbj'.out hbx'.out hbj'.out.size) hbq'.out (by have := hbj'.out.size; have := hbx'.out.size; omega)⟩, by simp [intOf]; omega⟩
            · have hbx' := Lib.hid hbx
              clear hkx hbx hyr
              go_wp2
              exact ⟨⟨j + 1, by go_num, by omega, belowP_at hbj'.out hbx'.out hbj'.out.size⟩, by simp [intOf]; omega⟩
          · have hjli : ¬ (j : Int) < (k1 : Int) := by omega
            have hwk := Lib.hid (worksPs_any wr (hT'.out.below hBj'.out))
            go_wp2_with (go_at_call 6; (with_reducible refine Calls.mono hwk.out ?_); rintro e w9 ⟨rfl, hb9⟩)
            go_ret
            exact ⟨rfl, belowP_at hBj'.out hb9 hzj⟩
      · have hlti : (at_ : Int) < (k : Int) := by omega
        have hi5 : ¬ (i : Int) ≤ 5000 := by omega
        have hne : ¬ (at_ : Int) = (k : Int) := by omega
        have hat0' := Lib.hid hK'.out.1.at
        have hB0' := Lib.hid hBW'.out
        have hn0' := Lib.hid hka'.out
        have hcnt := saysP_count (most := most) (m := m) init0 (prNew []) bs
        rw [hall'.out] at hcnt
        have hz2 : init0.ws.length = 0 := rfl
        have hka2 : ka ≤ 1200 := by have := hk'.out; have := hka'.out; omega
        clear hcnt
        go_wp2_with (go_at_call 11; (with_reducible refine Calls.mono (numPs_any _ _) ?_); rintro e w' ⟨rfl, rfl⟩)
        obtain ⟨wb, hwb⟩ : ∃ wb, wr = wb := ⟨_, rfl⟩
        rw [hwb] at hat0' hB0' ⊢
        have hB0s := hB0'.out.size
        go_loopw [19] (fun x19 W => ∃ j : Nat, x19 = .int .i64 (j : Int) ∧ j ≤ ka ∧ Below wb.heap.size wb W) (fun x19 _ => ka - (intOf x19).toNat)
        case atStart => exact ⟨0, rfl, Nat.zero_le _, Below.refl _ _⟩
        case round =>
          obtain ⟨j, rfl, hj, hbj⟩ := hrel
          have hbj' := Lib.hid hbj
          have hBj' := Lib.hid (belowP_at hB0'.out hbj hB0s)
          have hzj := hBj'.out.size
          clear hbj
          by_cases hjl : j < ka
          · have hjli : (j : Int) < (ka : Int) := by omega
            obtain ⟨y, hy⟩ : ∃ y, all[j]? = some y := ⟨all[j]'(by have := hn0'.out; omega), List.getElem?_eq_getElem (by have := hn0'.out; omega)⟩
            have hyr := hgood'.out y (List.mem_of_getElem? hy)
            have hys := hsd'.out y (List.mem_of_getElem? hy)
            obtain ⟨g, hgA, hgl, d0, d1, d2, d3, d4⟩ := (hat0'.out.below hbj'.out) j _ hy
            obtain ⟨kd, ⟨a, b, c⟩, rt⟩ := y
            obtain ⟨_, _, l1, l2, l3⟩ := hys
            simp only at d0 d1 d2 d3 d4 hyr l1 l2 l3
            subst hgA
            clear d4 hy
            have hbx : Below wr.heap.size wr (wr.alloc (.cells #[.string ⟨a.toArray⟩, .string ⟨b.toArray⟩, .string ⟨c.toArray⟩] 37)) := (Below.refl _ _).alloc (Nat.le_refl _) _
            have hkx := Has.new wr 37 #[.string ⟨a.toArray⟩, .string ⟨b.toArray⟩, .string ⟨c.toArray⟩]
            have x0 := hkx.cell 0
            have x1 := hkx.cell 1
            have x2 := hkx.cell 2
            have d0b := (hbx.cell (p := ⟨g, j * 5, none⟩) hgl).trans d0
            by_cases hk1 : kd = 1
            · subst hk1
              obtain ⟨hr1, hr2⟩ := hyr rfl
              unfold sumE at hr2
              simp only at hr1 hr2
              have hrr0 := refRightE_any (a, b, c) (wr.alloc (.cells #[.string ⟨a.toArray⟩, .string ⟨b.toArray⟩, .string ⟨c.toArray⟩] 37)) (by simp only; omega)
              rw [hr1] at hrr0
              unfold evV evCells at hrr0
              have hrr := Lib.hid hrr0
              have hkx' := Lib.hid hkx
              have hbx' := Lib.hid hbx
              have hle : ¬ (m : Int) < (a.length : Int) + (b.length : Int) + (c.length : Int) := by omega
              clear hrr0 hkx hbx hyr hr1
              go_wp2_with (go_at_call 21; (with_reducible refine Calls.mono hrr.out ?_); rintro e wq ⟨rfl, hbq⟩; have y0 := (hkx'.out.below hbq hkx'.out.lt).cell 0; have y1 := (hkx'.out.below hbq hkx'.out.lt).cell 1; have y2 := (hkx'.out.below hbq hkx'.out.lt).cell 2; have hbq' := Lib.hid hbq; clear hbq)
              exact ⟨⟨j + 1, by go_num, by omega, belowP_at (belowP_at hbj'.out hbx'.out hbj'.out.size) hbq'.out (by have := hbj'.out.size; have := hbx'.out.size; omega)⟩, by simp [intOf]; omega⟩
            · have hbx' := Lib.hid hbx
              clear hkx hbx hyr
              go_wp2
              exact ⟨⟨j + 1, by go_num, by omega, belowP_at hbj'.out hbx'.out hbj'.out.size⟩, by simp [intOf]; omega⟩
          · have hjli : ¬ (j : Int) < (ka : Int) := by omega
            have hwk := Lib.hid (worksPs_any wr (hT'.out.below hBj'.out))
            go_wp2_with (go_at_call 6; (with_reducible refine Calls.mono hwk.out ?_); rintro e w9 ⟨rfl, hb9⟩)
            go_ret
            exact ⟨rfl, belowP_at hBj'.out hb9 hzj⟩
end Go.Proofs.YtlcfpnegpihicaaGreatDoor
