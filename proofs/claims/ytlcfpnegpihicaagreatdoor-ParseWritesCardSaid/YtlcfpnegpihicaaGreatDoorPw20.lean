import Derived.Test.YtlcfpnegpihicaaGreatDoorPw19
import Derived.Test.YtlcfpnegpihicaaGreatDoorPw13
import Derived.Deep.CutRange
import Derived.Deep.RegionHeld3
namespace Go.Proofs.YtlcfpnegpihicaaGreatDoor
open Go.RowKit Go.Shelf
attribute [local go_sem] Oper.semAt_some

/-! ## Copy, the rest -/
theorem copyPs_none (v : Option Addr) (w : World) (h : NoP w v) : Calls Tryz.prog 20 #[.pointer v] w fun e w' => e = .returned (.pointer none) ∧ w = w' := by
  have hnone := Lib.hid (pNone_yes v w h)
  clear h
  go_enter Tryz.func20, Tryz.ntmps20
  go_wp2_with ((go_at_call 29; (with_reducible refine Calls.mono hnone.out ?_); rintro e w1 ⟨rfl, rfl⟩))
  go_ret
  exact ⟨rfl, rfl⟩
def CopyP (nb l m : Nat) (s : PrS) (c : CSt) (w : World) (e : Ending) (w' : World) : Prop :=
  ∃ q sq dq oq dv, e = .returned (.pointer (some ⟨q, 0, none⟩)) ∧ w.heap.size ≤ q ∧ w.heap.size ≤ sq ∧ w.heap.size ≤ dq ∧ (∀ k, oq = some k → w.heap.size ≤ k) ∧ (∀ k, dv.ownBlock = some k → w.heap.size ≤ k ∧ oq ≠ some k) ∧ Has w' q 71 (prC sq dv s l m) ∧ Bs w' nb dv s.data ∧ SpO w' nb sq dq l oq c ∧ Below w.heap.size w w'
set_option maxRecDepth 100000 in
set_option maxHeartbeats 2000000 in
theorem copyPs_any (nb p sp dp l m : Nat) (ob : Option Nat) (dv : Value) (s : PrS) (c : CSt) (w : World) (h : Has w p 71 (prC sp dv s l m)) (hd : Bs w nb dv s.data) (hS : SpO w nb sp dp l ob c) (h1 : 1 ≤ l) (h2 : l ≤ 65536) (hok : c.ok l) (hnb : nb ≤ w.heap.size) (hdl : s.data.length ≤ 1000000) :
    Calls Tryz.prog 20 #[.pointer (some ⟨p, 0, none⟩)] w (CopyP nb l m s c w) := by
  have hnone := Lib.hid (pNone_no p l w (h.cell 5) h1)
  have hpd := h.drew
  have hsa := Lib.hid (splApart_any nb p sp dp l ob c w.drew (hpd.cell 0) hpd.lt (hS.below (Below.refl _ _).drew) h1 h2 hok hnb)
  have hua := Lib.hid (fun W (hb : Below w.drew.heap.size w.drew W) => undApart_any nb p sp l m dv s W (hpd.below hb hpd.lt) ((hd.below (Below.refl _ _).drew).below hb) hdl)
  have c4 := h.cell 4
  have c5 := h.cell 5
  have c6 := h.cell 6
  unfold prC at c4 c5 c6
  have hpd' := Lib.hid hpd
  clear h hd hS hpd
  go_enter Tryz.func20, Tryz.ntmps20
  go_upto_region 3 with ((go_at_call 29; (with_reducible refine Calls.mono hnone.out ?_); rintro e w1 ⟨rfl, rfl⟩))
  go_region_held3 (fun W' => W'.cell? ⟨p, 4, none⟩ = some (.string ⟨s.last.toArray⟩) ∧ W'.cell? ⟨p, 5, none⟩ = some (.int .i64 (l : Int)) ∧ W'.cell? ⟨p, 6, none⟩ = some (.int .i64 (m : Int)))
    (first
    | exact hset.out _
    | exact ⟨g4, g5, g6⟩
    | exact ⟨j4, j5, j6⟩
    | go_keep)
    (first
    | (go_at_call 34; (with_reducible refine Calls.mono hsa.out ?_); rintro e w3 ⟨sq, dq, oq, rfl, ha, hb, ho, hSq, hbb⟩
       have hp3 := hpd'.out.below hbb hpd'.out.lt
       have g4 := hp3.cell 4
       have g5 := hp3.cell 5
       have g6 := hp3.cell 6
       unfold prC at g4 g5 g6
       have hp3' := Lib.hid hp3
       have ha' := Lib.hid ha
       have hb' := Lib.hid hb
       have ho' := Lib.hid ho
       have hSq' := Lib.hid hSq
       have hbb' := Lib.hid hbb
       have hua3 := Lib.hid (hua.out w3 hbb)
       clear hp3 ha hb ho hSq hbb)
    | (go_at_call 35; (with_reducible refine Calls.mono hua3.out ?_); rintro e w4 ⟨v, rfl, hv, hb4⟩
       have hp4 := hp3'.out.below hb4 hp3'.out.lt
       have j4 := hp4.cell 4
       have j5 := hp4.cell 5
       have j6 := hp4.cell 6
       unfold prC at j4 j5 j6
       have hset : Hid (∀ o, (w4.alloc o).cell? ⟨p, 4, none⟩ = some (.string ⟨s.last.toArray⟩) ∧ (w4.alloc o).cell? ⟨p, 5, none⟩ = some (.int .i64 (l : Int)) ∧ (w4.alloc o).cell? ⟨p, 6, none⟩ = some (.int .i64 (m : Int))) := Lib.hid (fun o => ⟨(hp4.alloc o).cell 4, (hp4.alloc o).cell 5, (hp4.alloc o).cell 6⟩)
       have hv' := Lib.hid hv
       have hb4' := Lib.hid hb4
       obtain ⟨A4, c4', rfl, _⟩ := hv.shape
       clear hp4 hv hb4)
    | fail)
  all_goals (
    go_wp2
    go_ret
    have hz4 := hb4'.out.size
    have hz3 := hbb'.out.size
    have hzd : w.drew.heap.size = w.heap.size := rfl
    have ha := ha'.out
    have hb := hb'.out
    have ho := ho'.out
    have hlt := hSq'.out.lt
    have hbw : Below w.heap.size w w4 := ((Below.refl _ _).drew.trans (hbb'.out)).trans (hb4'.out.mono hz3)
    refine ⟨w4.heap.size, sq, dq, oq, .slice A4 s.data.length c4', rfl, by omega, by omega, by omega, fun k h => by have := ho k h; omega, fun k h => ⟨by have := (hv'.out.own k h).1; omega, fun h2 => by have := (hv'.out.own k h).1; have := (hlt.2.2.2 k h2).1; omega⟩, Has.new w4 _ _, ((hv'.out.mono (by omega)).below ((Below.refl _ _).alloc (Nat.le_refl _) _)), (hSq'.out.below hb4'.out).below ((Below.refl _ _).alloc (Nat.le_refl _) _), hbw.alloc (by omega) _⟩)
end Go.Proofs.YtlcfpnegpihicaaGreatDoor

namespace Go.Proofs.YtlcfpnegpihicaaGreatDoor
open Go.RowKit Go.Shelf
attribute [local go_sem] Oper.semAt_some

/-! ## What is gone over: the makers -/
theorem fieldsPs_any (p : Nat) (PA : Option Addr) (m pc : Nat) (w : World) : Calls Tryz.prog 42 #[.pointer (some ⟨p, 0, none⟩), .slice PA m pc] w fun e w' =>
    e = .returned (.func (.func 61) #[] #[.pointer (some ⟨w.heap.size + 1, 0, none⟩), .pointer (some ⟨w.heap.size, 0, none⟩)]) ∧ w' = (w.alloc (.cells #[.pointer (some ⟨p, 0, none⟩)] 127)).alloc (.cells #[.slice PA m pc] 76) := by
  go_enter Tryz.func42, Tryz.ntmps42
  go_wp2
  go_ret
  exact ⟨rfl, rfl⟩
theorem gatherPs_any (u v : Value) (hu : ∃ f r c, u = .func f r c) (hv : ∃ f r c, v = .func f r c) (w : World) : Calls Tryz.prog 40 #[u, v] w fun e w' =>
    e = .returned (.func (.func 59) #[] #[.pointer (some ⟨w.heap.size + 1, 0, none⟩), .pointer (some ⟨w.heap.size, 0, none⟩)]) ∧ w' = (w.alloc (.cells #[u] 105)).alloc (.cells #[v] 107) := by
  obtain ⟨f, r, c, rfl⟩ := hu
  obtain ⟨f2, r2, c2, rfl⟩ := hv
  go_enter Tryz.func40, Tryz.ntmps40
  go_wp2
  go_ret
  exact ⟨rfl, rfl⟩
/-- What come makes: four boxes, the last two for gather's closure. -/
def ComeW (p : Nat) (PA : Option Addr) (m pc : Nat) (w : World) : World :=
  (((w.alloc (.cells #[.pointer (some ⟨p, 0, none⟩)] 127)).alloc (.cells #[.slice PA m pc] 76)).alloc (.cells #[.func (.func 41) #[.pointer (some ⟨p, 0, none⟩)] #[]] 105)).alloc (.cells #[.func (.func 61) #[] #[.pointer (some ⟨w.heap.size + 1, 0, none⟩), .pointer (some ⟨w.heap.size, 0, none⟩)]] 107)
theorem comePs_any (p : Nat) (PA : Option Addr) (m pc : Nat) (w : World) : Calls Tryz.prog 26 #[.pointer (some ⟨p, 0, none⟩), .slice PA m pc] w fun e w' =>
    e = .returned (.func (.func 59) #[] #[.pointer (some ⟨w.heap.size + 3, 0, none⟩), .pointer (some ⟨w.heap.size + 2, 0, none⟩)]) ∧ w' = ComeW p PA m pc w := by
  have hf := Lib.hid (fieldsPs_any p PA m pc w)
  have hg := Lib.hid (gatherPs_any (.func (.func 41) #[.pointer (some ⟨p, 0, none⟩)] #[]) (.func (.func 61) #[] #[.pointer (some ⟨w.heap.size + 1, 0, none⟩), .pointer (some ⟨w.heap.size, 0, none⟩)]) ⟨_, _, _, rfl⟩ ⟨_, _, _, rfl⟩ ((w.alloc (.cells #[.pointer (some ⟨p, 0, none⟩)] 127)).alloc (.cells #[.slice PA m pc] 76)))
  go_enter Tryz.func26, Tryz.ntmps26
  go_wp2_with (first
    | (go_at_call 42; (with_reducible refine Calls.mono hf.out ?_); rintro e w1 ⟨rfl, rfl⟩)
    | (go_at_call 40; (with_reducible refine Calls.mono hg.out ?_); rintro e w2 ⟨rfl, rfl⟩))
  go_ret
  refine ⟨by simp, rfl⟩
end Go.Proofs.YtlcfpnegpihicaaGreatDoor

namespace Go.Proofs.YtlcfpnegpihicaaGreatDoor
open Go.RowKit Go.Shelf
attribute [local go_sem] Oper.semAt_some

/-! ## Chunk, the maker -/
theorem chunk_any (A : Option Addr) (n c : Nat) (k : Nat) (hk : 1 ≤ k) (w : World) : Calls Tryz.prog 39 #[.slice A n c, .int .i64 (k : Int)] w fun e w' =>
    e = .returned (.func (.func 58) #[] #[.pointer (some ⟨w.heap.size, 0, none⟩), .pointer (some ⟨w.heap.size + 1, 0, none⟩)]) ∧ w' = (w.alloc (.cells #[.slice A n c] 22)).alloc (.cells #[.int .i64 (k : Int)] 3) := by
  have hk1 : ¬ (k : Int) < 1 := by omega
  go_enter Tryz.func39, Tryz.ntmps39
  go_wp2
  go_ret
  exact ⟨rfl, rfl⟩
end Go.Proofs.YtlcfpnegpihicaaGreatDoor

namespace Go.Proofs.YtlcfpnegpihicaaGreatDoor
open Go.RowKit Go.Shelf
attribute [local go_sem] Oper.semAt_some

/-! ## What is said, compared; lists of it -/
structure SdOk (x : Sd) : Prop where
  k : (Lit.int .i64 x.1).wf = true
  r : (Lit.int .u64 x.2.2).wf = true
  i : x.2.1.1.length ≤ 1000000
  t : x.2.1.2.1.length ≤ 1000000
  d : x.2.1.2.2.length ≤ 1000000
def SdAt (W : World) (A : Option Addr) (l : List Sd) : Prop := ∀ (i : Nat) (x : Sd), l[i]? = some x → ∃ g, A = some ⟨g, 0, none⟩ ∧ g < W.heap.size ∧ W.cell? ⟨g, i * 5, none⟩ = some (.int .i64 x.1) ∧ W.cell? ⟨g, i * 5 + 1, none⟩ = some (.string ⟨x.2.1.1.toArray⟩) ∧ W.cell? ⟨g, i * 5 + 2, none⟩ = some (.string ⟨x.2.1.2.1.toArray⟩) ∧ W.cell? ⟨g, i * 5 + 3, none⟩ = some (.string ⟨x.2.1.2.2.toArray⟩) ∧ W.cell? ⟨g, i * 5 + 4, none⟩ = some (.int .u64 x.2.2)
theorem SdAt.below {W W' : World} {A : Option Addr} {l : List Sd} (h : SdAt W A l) (hb : Below W.heap.size W W') : SdAt W' A l := fun i x hx => by
  obtain ⟨g, e, hg, h1, h2, h3, h4, h5⟩ := h i x hx
  have k := fun o => hb.cell (p := ⟨g, o, none⟩) hg
  exact ⟨g, e, Nat.lt_of_lt_of_le hg hb.size, (k _).trans h1, (k _).trans h2, (k _).trans h3, (k _).trans h4, (k _).trans h5⟩
theorem said_lits (x : Sd) (h : SdOk x) : Tryz.prog.keyLits 3 40 (sdC x).toList = some [.int .i64 x.1, .string x.2.1.1, .string x.2.1.2.1, .string x.2.1.2.2, .int .u64 x.2.2] := by
  have k1 : Tryz.prog.cellsOf 9 = 1 := by kernel_rfl
  have k2 : Tryz.prog.cellsOf 40 = 5 := by kernel_rfl
  have k3 : Tryz.prog.cellsOf 37 = 3 := by kernel_rfl
  have k4 : Tryz.prog.cellsOf 35 = 1 := by kernel_rfl
  have k5 : Tryz.prog.cellsOf 38 = 1 := by kernel_rfl
  have z : ∀ a : List UInt8, a.length ≤ 1000000 → (⟨a.toArray⟩ : ByteArray).size ≤ maxLen := fun a ha => by
    show a.toArray.size ≤ _
    simp [maxLen]; omega
  have z1 := z _ h.i
  have z2 := z _ h.t
  have z3 := z _ h.d
  have hk := h.k
  have hr := h.r
  unfold sdC
  simp [Program.keyLits, Tryz.underlying40, Tryz.underlying37, Tryz.underlying35, Tryz.underlying38, Tryz.underlying9, k1, k2, k3, k4, k5, z1, z2, z3, hk, hr]
  rw [if_pos (by intro i hi; rcases (by omega : i = 0 ∨ i = 1 ∨ i = 2) with rfl | rfl | rfl <;> simp)]
  rfl
set_option maxRecDepth 100000 in
theorem said_equal (x y : Sd) (hx : SdOk x) (hy : SdOk y) (w : World) :
    (Op.equalIn 10000 40 (.agg (sdC x)) (.agg (sdC y))).run Tryz.prog w = .ok (decide (x = y)) w := by
  obtain ⟨r, hr, hiff⟩ := run_equalIn_deep (P := Tryz.prog) 9997 3 40 (by kernel_rfl) w 5 5 (.agg (sdC x)) (.agg (sdC y)) _ _ (by kernel_rfl) (by kernel_rfl) (said_lits x hx) (said_lits y hy)
  rw [hr]
  have : r = decide (x = y) := by
    obtain ⟨a, ⟨b, c, d⟩, e⟩ := x
    obtain ⟨a', ⟨b', c', d'⟩, e'⟩ := y
    cases r with
    | true =>
      have := hiff.1 rfl
      simp at this
      obtain ⟨rfl, rfl, rfl, rfl, rfl⟩ := this
      simp
    | false =>
      refine (decide_eq_false (fun h => ?_)).symm
      have := hiff.2 (by rw [h])
      cases this
  rw [this]
set_option maxRecDepth 100000 in
set_option maxHeartbeats 2000000 in
theorem sameSd_any (A B : Option Addr) (xs ys : List Sd) (n m c d : Nat) (w : World) (hn : n = xs.length) (hm : m = ys.length) (hA : SdAt w A xs) (hB : SdAt w B ys) (hxs : ∀ x ∈ xs, SdOk x) (hys : ∀ y ∈ ys, SdOk y) (hnm : n ≤ 1099511627776) (hmm : m ≤ 1099511627776) :
    Calls Tryz.prog 10 #[.slice A n c, .slice B m d] w fun e w' => e = .returned (.bool (decide (xs = ys))) ∧ Below w.heap.size w w' := by
  have hA' := Lib.hid hA
  have hB' := Lib.hid hB
  have hxs' := Lib.hid hxs
  have hys' := Lib.hid hys
  have hn' := Lib.hid hn
  have hm' := Lib.hid hm
  by_cases hl : n = m
  · subst hl
    clear hA hB hxs hys hn hm
    go_enter Tryz.func10, Tryz.ntmps10
    go_wp2
    go_loopw [5] (fun v W => ∃ k : Nat, v = .int .i64 (k : Int) ∧ k ≤ n ∧ xs.take k = ys.take k ∧ Below w.heap.size w W) (fun v _ => n - (intOf v).toNat)
    case atStart => exact ⟨0, rfl, Nat.zero_le _, by simp, Below.refl _ _⟩
    case round =>
      obtain ⟨k, rfl, hk, ht, hb⟩ := hrel
      have ht' := Lib.hid ht
      have hb' := Lib.hid hb
      clear ht hb
      by_cases hlt : k < n
      · obtain ⟨x, hx⟩ : ∃ x, xs[k]? = some x := ⟨xs[k]'(by have := hn'.out; omega), List.getElem?_eq_getElem (by have := hn'.out; omega)⟩
        obtain ⟨y, hy⟩ : ∃ y, ys[k]? = some y := ⟨ys[k]'(by have := hm'.out; omega), List.getElem?_eq_getElem (by have := hm'.out; omega)⟩
        obtain ⟨g, hgA, _, g1, g2, g3, g4, g5⟩ := (hA'.out.below hb'.out) k x hx
        obtain ⟨g', hgB, _, j1, j2, j3, j4, j5⟩ := (hB'.out.below hb'.out) k y hy
        subst hgA
        subst hgB
        have hx1 := hxs'.out x (List.mem_of_getElem? hx)
        have hy1 := hys'.out y (List.mem_of_getElem? hy)
        have heq := fun w => said_equal x y hx1 hy1 w
        unfold sdC at heq
        have hki : (k : Int) < (n : Int) := by omega
        have hx' := Lib.hid hx
        have hy' := Lib.hid hy
        clear hx hy
        by_cases he : x = y
        · rw [decide_eq_true he] at heq
          have he' := Lib.hid he
          clear he
          go_wp2
          go_quiet (fail)
          go_wp2
          refine ⟨⟨k + 1, by go_num, by omega, take_eq_succ hx'.out hy'.out ht'.out he'.out, below_draws hb'.out _⟩, by simp [intOf]; omega⟩
        · rw [decide_eq_false he] at heq
          have he' := Lib.hid he
          clear he
          go_wp2
          go_quiet (fail)
          go_wp2
          go_ret
          refine ⟨ret_boolU (decide_eq_false (fun e => ?_)).symm, below_draws hb'.out _⟩
          have h1 := hx'.out
          rw [e, hy'.out] at h1
          exact he'.out (Option.some.inj h1).symm
      · obtain rfl : k = n := by omega
        go_wp2
        go_ret
        refine ⟨ret_boolU (decide_eq_true ?_).symm, hb'.out⟩
        have h := ht'.out
        rwa [List.take_of_length_le (by have := hn'.out; omega), List.take_of_length_le (by have := hm'.out; omega)] at h
  · have hne : decide (xs = ys) = false := decide_eq_false (fun e => hl (by rw [hn, hm, e]))
    have hli : ¬ (n : Int) = (m : Int) := by omega
    rw [hne]
    clear hA hB hxs hys hn hm hne
    go_enter Tryz.func10, Tryz.ntmps10
    go_wp2
    go_ret
    exact ⟨rfl, Below.refl _ _⟩
end Go.Proofs.YtlcfpnegpihicaaGreatDoor

namespace Go.Proofs.YtlcfpnegpihicaaGreatDoor
open Go.RowKit Go.Shelf

/-! ## The document's splitter -/
theorem size_mk (l : List UInt8) : (⟨l.toArray⟩ : ByteArray).size = l.length := by show l.toArray.size = _; simp
set_option maxRecDepth 100000 in
theorem one_any (A : Option Addr) (n c most : Nat) (line t : List UInt8) (any half : Bool) (w : World) (ht : t.length ≤ 1000000) (__hm : most ≤ 65536) :
    Calls Tryz.prog 49 #[.agg #[.slice A n c, .int .i64 (most : Int), .string ⟨line.toArray⟩, .bool any, .bool half], .string ⟨t.toArray⟩] w fun e w' => e = .returned (.agg #[.string ⟨(oneL most t).1.toArray⟩, .bool (oneL most t).2]) ∧ Below w.heap.size w w' := by
  have hb1 : Below w.heap.size w ((w.alloc (.cells #[.slice A n c, .int .i64 (most : Int), .string ⟨line.toArray⟩, .bool any, .bool half] 49)).alloc (.cells #[.string ⟨(oneL most t).1.toArray⟩, .bool (oneL most t).2] 92)) := ((Below.refl _ _).alloc (Nat.le_refl _) _).alloc (by simp) _
  have kR := Has.new (w.alloc (.cells #[.slice A n c, .int .i64 (most : Int), .string ⟨line.toArray⟩, .bool any, .bool half] 49)) 92 #[.string ⟨(oneL most t).1.toArray⟩, .bool (oneL most t).2]
  simp only [World.size_alloc] at kR
  obtain ⟨s, hs⟩ : ∃ s : ByteArray, (⟨t.toArray⟩ : ByteArray) = s := ⟨_, rfl⟩
  have hsz : s.size = t.length := by rw [← hs, size_mk]
  have hsb : s.size ≤ 1000000 := by omega
  rw [hs]
  by_cases h : most < t.length
  · have ho : oneL most t = ([], true) := by unfold oneL; rw [if_pos h]
    rw [ho] at hb1 kR ⊢
    have hi : (most : Int) < (s.size : Int) := by omega
    have hb1' := Lib.hid hb1
    have x0 := kR.cell 0
    have x1 := kR.cell 1
    clear hb1 kR hs hsz ho
    go_enter Tryz.func49, Tryz.ntmps49
    go_wp2
    refine bodyPost_ret (v := .agg #[.string ⟨#[]⟩, .bool true]) (by simp [results, Tryz.results49, go_sem, x0, x1]) rfl ⟨rfl, hb1'.out⟩
  · have ho : oneL most t = (t, false) := by unfold oneL; rw [if_neg h]
    rw [ho] at hb1 kR ⊢
    simp only at hb1 kR ⊢
    rw [hs] at hb1 kR ⊢
    have hi : ¬ (most : Int) < (s.size : Int) := by omega
    have hb1' := Lib.hid hb1
    have x0 := kR.cell 0
    have x1 := kR.cell 1
    clear hb1 kR hs hsz ho
    go_enter Tryz.func49, Tryz.ntmps49
    go_wp2
    refine bodyPost_ret (v := .agg #[.string s, .bool false]) (by simp [results, Tryz.results49, go_sem, x0, x1]) rfl ⟨rfl, hb1'.out⟩
set_option maxRecDepth 100000 in
theorem refNewL_yes (most : Nat) (w : World) (h1 : 1 ≤ most) (h2 : most ≤ 65536) : Calls Tryz.prog 28 #[.int .i64 (most : Int)] w fun e w' => e = .returned (.tuple #[.agg #[.slice none 0 0, .int .i64 (most : Int), .string ⟨#[]⟩, .bool false, .bool false], .int .i64 0]) ∧ Below w.heap.size w w' := by
  have hi1 : ¬ (most : Int) < 1 := by omega
  have hi2 : ¬ (65536 : Int) < (most : Int) := by omega
  have hb1 := Lib.hid (show Below w.heap.size w (w.alloc (.cells #[.slice none 0 0, .int .i64 (most : Int), .string ⟨#[]⟩, .bool false, .bool false] 49)) from (Below.refl _ _).alloc (Nat.le_refl _) _)
  have kR := Has.new w 49 #[.slice none 0 0, .int .i64 (most : Int), .string ⟨#[]⟩, .bool false, .bool false]
  have x0 := kR.cell 0
  have x1 := kR.cell 1
  have x2 := kR.cell 2
  have x3 := kR.cell 3
  have x4 := kR.cell 4
  clear kR
  go_enter Tryz.func28, Tryz.ntmps28
  go_wp2
  refine bodyPost_ret (v := .tuple #[.agg #[.slice none 0 0, .int .i64 (most : Int), .string ⟨#[]⟩, .bool false, .bool false], .int .i64 0]) (by simp [results, Tryz.results28, go_sem, x0, x1, x2, x3, x4]) rfl ⟨rfl, hb1.out⟩
set_option maxRecDepth 100000 in
theorem refNewL_no (z : Int) (w : World) (h : z < 1 ∨ 65536 < z) : Calls Tryz.prog 28 #[.int .i64 z] w fun e w' => e = .returned (.tuple #[.agg #[.slice none 0 0, .int .i64 0, .string ⟨#[]⟩, .bool false, .bool false], .int .i64 2]) ∧ Below w.heap.size w w' := by
  have hb1 := Lib.hid (show Below w.heap.size w (w.alloc (.cells #[.slice none 0 0, .int .i64 0, .string ⟨#[]⟩, .bool false, .bool false] 49)) from (Below.refl _ _).alloc (Nat.le_refl _) _)
  have kR := Has.new w 49 #[.slice none 0 0, .int .i64 0, .string ⟨#[]⟩, .bool false, .bool false]
  have x0 := kR.cell 0
  have x1 := kR.cell 1
  have x2 := kR.cell 2
  have x3 := kR.cell 3
  have x4 := kR.cell 4
  clear kR
  by_cases h1 : z < 1
  · clear h
    go_enter Tryz.func28, Tryz.ntmps28
    go_wp2
    refine bodyPost_ret (v := .tuple #[.agg #[.slice none 0 0, .int .i64 0, .string ⟨#[]⟩, .bool false, .bool false], .int .i64 2]) (by simp [results, Tryz.results28, go_sem, x0, x1, x2, x3, x4]) rfl ⟨rfl, hb1.out⟩
  · have h2 : 65536 < z := by omega
    clear h
    go_enter Tryz.func28, Tryz.ntmps28
    go_wp2
    refine bodyPost_ret (v := .tuple #[.agg #[.slice none 0 0, .int .i64 0, .string ⟨#[]⟩, .bool false, .bool false], .int .i64 2]) (by simp [results, Tryz.results28, go_sem, x0, x1, x2, x3, x4]) rfl ⟨rfl, hb1.out⟩
end Go.Proofs.YtlcfpnegpihicaaGreatDoor
namespace Go.Proofs.YtlcfpnegpihicaaGreatDoor
open Go.RowKit Go.Shelf

/-! ## The document's Write -/
def RefWL (most : Nat) (r : RSt) (x : List UInt8) (w : World) (e : Ending) (w' : World) : Prop :=
  ∃ A c v, e = .returned (.tuple #[.agg #[.slice A (stepR most r x).2.ws.length c, .int .i64 (most : Int), .string ⟨(stepR most r x).2.line.toArray⟩, .bool (stepR most r x).2.any, .bool (stepR most r x).2.half], v]) ∧
    Rd w' (fun b => w.heap.size ≤ b ∧ b < w'.heap.size) A (stepR most r x).2.ws ∧ Lns w' w.heap.size v (stepR most r x).1 ∧ Below w.heap.size w w'
theorem pts_len (t : List UInt8) : (ptsL t).length ≤ t.length := by
  unfold ptsL ptsOf
  rw [List.length_map, List.length_map]
  exact places_len t 0
theorem ones_pts {W : World} {n0 : Nat} {A : Option Addr} {t : List UInt8} (h : OnesIn W n0 A (ptsOf t (placesFrom t 0))) {k p : Nat} (hp : (ptsL t)[k]? = some p) : ∃ g, A = some ⟨g, 0, none⟩ ∧ W.cell? ⟨g, k * 2 + 1, none⟩ = some (.int .i64 (p : Int)) := by
  unfold ptsL at hp
  rw [List.getElem?_map] at hp
  cases hx : (ptsOf t (placesFrom t 0))[k]? with
  | none => rw [hx] at hp; cases hp
  | some y =>
    rw [hx] at hp
    obtain rfl : y.2 = p := by simpa using hp
    obtain ⟨g, hA, _, _, hc⟩ := h (by have := (List.getElem?_eq_some_iff.1 hx).1; omega)
    exact ⟨g, hA, (hc k y hx).2⟩
theorem set5_other (W : World) (k : Nat) (a b c d e : Value) {j : Nat} (h : j ≠ k) : (((((W.setCell ⟨k, 0, none⟩ a).setCell ⟨k, 1, none⟩ b).setCell ⟨k, 2, none⟩ c).setCell ⟨k, 3, none⟩ d).setCell ⟨k, 4, none⟩ e).heap[j]? = W.heap[j]? :=
  (Below.heap_setCell _ ⟨k, 4, none⟩ _ j h).trans ((Below.heap_setCell _ ⟨k, 3, none⟩ _ j h).trans ((Below.heap_setCell _ ⟨k, 2, none⟩ _ j h).trans ((Below.heap_setCell _ ⟨k, 1, none⟩ _ j h).trans (Below.heap_setCell _ ⟨k, 0, none⟩ _ j h))))
/-- How it stands in a round. -/
def RwM (b2 most : Nat) (A : Option Addr) (n c : Nat) (s : Bool × List UInt8 × Bool) (W : World) : Prop :=
  Has W b2 49 #[.slice A n c, .int .i64 (most : Int), .string ⟨s.2.1.toArray⟩, .bool s.1, .bool s.2.2]
set_option maxRecDepth 100000 in
set_option maxHeartbeats 8000000 in
theorem refWriteL_any (A B : Option Addr) (n1 c1 n2 c2 most : Nat) (r : RSt) (x : List UInt8) (w : World) (hA : Rd w (· < w.heap.size) A r.ws) (hB : Rd w (· < w.heap.size) B x) (hn1 : n1 = r.ws.length) (hn2 : n2 = x.length) (hl1 : n1 ≤ 1000) (hl2 : n2 ≤ 1000) (hm : most ≤ 65536) (hll : r.line.length ≤ most + 4) :
    Calls Tryz.prog 32 #[.agg #[.slice A n1 c1, .int .i64 (most : Int), .string ⟨r.line.toArray⟩, .bool r.any, .bool r.half], .slice B n2 c2] w (RefWL most r x w) := by
  obtain ⟨rn, hrn⟩ : ∃ rn, run4 (r.ws ++ x) = rn := ⟨_, rfl⟩
  have hstep : stepR most r x = ((runP most (r.any, r.line, r.half) (ptsL rn.1)).1, ⟨rn.2, (runP most (r.any, r.line, r.half) (ptsL rn.1)).2.2.1, (runP most (r.any, r.line, r.half) (ptsL rn.1)).2.1, (runP most (r.any, r.line, r.half) (ptsL rn.1)).2.2.2⟩) := by unfold stepR; rw [hrn]
  have htl : rn.1.length ≤ 6000 := by have := run4_len1 (r.ws ++ x); rw [hrn, List.length_append] at this; omega
  have hB1 : Below w.heap.size w ((w.alloc (.cells #[.slice A n1 c1, .int .i64 (most : Int), .string ⟨r.line.toArray⟩, .bool r.any, .bool r.half] 49)).alloc (.cells #[.slice none 0 0, .int .i64 0, .string ⟨#[]⟩, .bool false, .bool false] 49)) := ((Below.refl _ _).alloc (Nat.le_refl _) _).alloc (by simp) _
  have k2 := (Has.new w 49 #[.slice A n1 c1, .int .i64 (most : Int), .string ⟨r.line.toArray⟩, .bool r.any, .bool r.half]).alloc (.cells #[.slice none 0 0, .int .i64 0, .string ⟨#[]⟩, .bool false, .bool false] 49)
  have k4 := Has.new (w.alloc (.cells #[.slice A n1 c1, .int .i64 (most : Int), .string ⟨r.line.toArray⟩, .bool r.any, .bool r.half] 49)) 49 #[.slice none 0 0, .int .i64 0, .string ⟨#[]⟩, .bool false, .bool false]
  simp only [World.size_alloc] at k4
  obtain ⟨w2, hw2⟩ : ∃ w2, (w.alloc (.cells #[.slice A n1 c1, .int .i64 (most : Int), .string ⟨r.line.toArray⟩, .bool r.any, .bool r.half] 49)).alloc (.cells #[.slice none 0 0, .int .i64 0, .string ⟨#[]⟩, .bool false, .bool false] 49) = w2 := ⟨_, rfl⟩
  have z2 : w2.heap.size = w.heap.size + 1 + 1 := by rw [← hw2]; simp
  rw [hw2] at hB1 k2 k4
  have hrw := refWrite_any A B r.ws x n1 c1 n2 c2 w2 ((hA.kept (Kept.below hB1 (fun _ h => h))).mono (fun b hb => by have hb : b < w.heap.size := hb; show b < w2.heap.size; omega)) ((hB.kept (Kept.below hB1 (fun _ h => h))).mono (fun b hb => by have hb : b < w.heap.size := hb; show b < w2.heap.size; omega)) hn1 hn2 hl1 hl2
  unfold RefWrote at hrw
  rw [hrn] at hrw
  obtain ⟨tx, htx⟩ : ∃ tx : ByteArray, (⟨rn.1.toArray⟩ : ByteArray) = tx := ⟨_, rfl⟩
  have htd : tx.data.toList = rn.1 := by rw [← htx]
  have htz : tx.size = rn.1.length := by rw [← htx, size_mk]
  rw [htx] at hrw
  obtain ⟨cF, wF, hstr⟩ := str_fun2 tx (by unfold maxLen; omega)
  have hsc := fun W => (hstr W).1
  have hstr' := Lib.hid (fun W => (hstr W).2)
  have e0 := k2.cell 0
  have hrw' := Lib.hid hrw
  have k2' := Lib.hid k2
  have k4' := Lib.hid k4
  have hB1' := Lib.hid hB1
  have hw2' := Lib.hid hw2
  have hstep' := Lib.hid hstep
  have htd' := Lib.hid htd
  have htz9 : tx.size ≤ 6000 := by omega
  clear hrw k2 k4 hB1 hw2 hA hB hn1 hn2 hstr hstep hrn htx htz htd
  go_enter Tryz.func32, Tryz.ntmps32
  go_upto_region 1 with (fail)
  rw [hw2'.out]
  go_upto_region 2 with (go_at_call 47; (with_reducible refine Calls.mono hrw'.out ?_); rintro e w3 ⟨v3, rfl, hH3, hb3⟩; have hH3' := Lib.hid hH3; have hb3' := Lib.hid hb3; obtain ⟨A3, c3, rfl, _⟩ := hH3; obtain ⟨m3, hm3⟩ : ∃ m3, rn.2.length = m3 := ⟨_, rfl⟩; rw [hm3]; have hm3' := Lib.hid hm3; clear hb3 hm3)
  have hb34 : Below w3.heap.size w3 (w3.alloc (.cells #[.slice A3 m3 c3] 47)) := (Below.refl _ _).alloc (Nat.le_refl _) _
  have kd := Has.new w3 47 #[.slice A3 m3 c3]
  obtain ⟨w4, hw4⟩ : ∃ w4, w3.alloc (.cells #[.slice A3 m3 c3] 47) = w4 := ⟨_, rfl⟩
  rw [hw4] at hb34 kd ⊢
  clear hw4
  have z3 := hb3'.out.size
  have z4 := hb34.size
  have hb24 : Below w2.heap.size w2 w4 := hb3'.out.trans (hb34.mono z3)
  have k24 := k2'.out.below hb24 k2'.out.lt
  have k44 := k4'.out.below hb24 k4'.out.lt
  have hrd4 : Rd w4 (fun b => w2.heap.size ≤ b ∧ b < w3.heap.size) A3 rn.2 := by
    obtain ⟨A', c', he, _, _, hr⟩ := hH3'.out
    injection he with he
    subst he
    exact hr.kept (Kept.below hb34 (fun b hb => hb.2))
  have k25 : Has (w4.setCell ⟨w.heap.size, 0, none⟩ (.slice A3 m3 c3)) w.heap.size 49 #[.slice A3 m3 c3, .int .i64 (most : Int), .string ⟨r.line.toArray⟩, .bool r.any, .bool r.half] := by simpa using k24.put 0 (.slice A3 m3 c3)
  have k45 : Has (w4.setCell ⟨w.heap.size, 0, none⟩ (.slice A3 m3 c3)) (w.heap.size + 1) 49 #[.slice none 0 0, .int .i64 0, .string ⟨#[]⟩, .bool false, .bool false] := k44.other (by omega) _
  have hrd5 : Rd (w4.setCell ⟨w.heap.size, 0, none⟩ (.slice A3 m3 c3)) (fun b => w2.heap.size ≤ b ∧ b < w3.heap.size) A3 rn.2 := hrd4.kept (fun b hb => Below.heap_setCell _ ⟨w.heap.size, 0, none⟩ _ b (by show b ≠ w.heap.size; omega))
  have hB5 : Below w.heap.size w (w4.setCell ⟨w.heap.size, 0, none⟩ (.slice A3 m3 c3)) := (hB1'.out.trans (hb24.mono (by omega))).setCell (p := ⟨w.heap.size, 0, none⟩) (Nat.le_refl _) _
  have e0 := k24.cell 0
  have f0 := k24.free 0
  have d0 := kd.cell 0
  have z5 : (w4.setCell ⟨w.heap.size, 0, none⟩ (.slice A3 m3 c3)).heap.size = w4.heap.size := by simp
  obtain ⟨w5, hw5⟩ : ∃ w5, w4.setCell ⟨w.heap.size, 0, none⟩ (.slice A3 m3 c3) = w5 := ⟨_, rfl⟩
  rw [hw5] at k25 k45 hrd5 hB5 z5
  have hw5' := Lib.hid hw5
  have z5h := Lib.hid z5
  clear z5
  have k25' := Lib.hid k25
  have hB5z : w.heap.size < w5.heap.size := k25.lt
  have k45' := Lib.hid k45
  have hrd5' := Lib.hid hrd5
  have hB5' := Lib.hid hB5
  clear hw5 k25 k45 hrd5 hB5 k24 k44 hrd4 hb24 hb34 kd hH3'
  go_upto_region 4 with (fail)
  rw [hw5'.out]
  obtain ⟨s1, s2, s3, s4, s5⟩ := hstr'.out w5
  have htl9 := htz9
  have hall := all_anyU (some ⟨w5.heap.size, 0, none⟩) tx.data.toList tx.size (cF w5) (wF w5) (s1.mono (fun k (hk : k = w5.heap.size) => by show k < _; omega)) (by simp) s4 s5.1 (by omega)
  unfold AllOf at hall
  have hpl := pts_len rn.1
  have hall' := Lib.hid hall
  have hbF := Lib.hid s2
  have hpm1 : (ptsOf tx.data.toList (placesFrom tx.data.toList 0)).length = (ptsL rn.1).length := by rw [htd'.out]; simp [ptsL]
  have hpm1' := Lib.hid hpm1
  obtain ⟨m, hme⟩ : ∃ m, (ptsL rn.1).length = m := ⟨_, rfl⟩
  have hmb : m ≤ 6000 := by omega
  have hme' := Lib.hid hme
  have zF := Lib.hid s3
  clear hall s1 s2 s3 s4 s5 hpm1 hme hpl e0 f0 d0
  go_wp2_with (go_at_call 48; (with_reducible refine Calls.mono hall'.out ?_); rintro e w6 ⟨v6, rfl, hv6, hb6⟩; obtain ⟨A6, c6, rfl, hin6⟩ := hv6.shape; rw [hpm1'.out, hme'.out]; have hin6' := Lib.hid hin6; have hb6' := Lib.hid hb6; clear hv6 hin6 hb6)
  have hb56 : Below w5.heap.size w5 w6 := hbF.out.trans (hb6'.out.mono (by have := zF.out; omega))
  have k26 := Lib.hid (k25'.out.below hb56 k25'.out.lt)
  have k46 := Lib.hid (k45'.out.below hb56 k45'.out.lt)
  have hrd6 := Lib.hid (hrd5'.out.kept (Kept.below hb56 (fun b hb => by have := z5h.out; omega)))
  have z6 := hb56.size
  have hB6 := Lib.hid (hB5'.out.trans (hb56.mono (by have := hB5'.out.size; omega)))
  have hzw6 := hB6.out.size
  clear hsc hb56 k25' k45' hrd5' hB5' hbF hb6' hall' hpm1'
  go_loopw [8, 10] (fun v8 v10 W => ∃ k : Nat, v10 = .int .i64 (k : Int) ∧ k ≤ m ∧ Lns W w6.heap.size v8 (runP most (r.any, r.line, r.half) ((ptsL rn.1).take k)).1 ∧ RwM w.heap.size most A3 m3 c3 (runP most (r.any, r.line, r.half) ((ptsL rn.1).take k)).2 W ∧ Chg (· = w.heap.size) w6 W) (fun _ v10 _ => m - (intOf v10).toNat)
  case atStart => exact ⟨0, rfl, Nat.zero_le _, lns_nil _ _, k26.out, Chg.refl _ _⟩
  case round =>
    obtain ⟨k, rfl, hk, hv, hM, hC⟩ := hrel
    have hzr := hC.size
    by_cases hlt : k < m
    · obtain ⟨p, hp⟩ : ∃ p, (ptsL rn.1)[k]? = some p := ⟨(ptsL rn.1)[k]'(by have := hme'.out; omega), List.getElem?_eq_getElem (by have := hme'.out; omega)⟩
      have hpt := ptsL_pt rn.1 p (List.mem_of_getElem? hp)
      have hin := hin6'.out
      rw [htd'.out] at hin
      have hin2 := hin (by have h1 := (List.getElem?_eq_some_iff.1 hp).1; have h2 : (ptsL rn.1).length = (ptsOf rn.1 (placesFrom rn.1 0)).length := (by simp [ptsL]); omega)
      obtain ⟨g0, hg0, hg1, hg2, _⟩ := hin2
      obtain ⟨g, hgA, hgc⟩ := ones_pts hin hp
      obtain rfl : g0 = g := by rw [hg0] at hgA; injection hgA with hgA; injection hgA
      subst hgA
      have hgr : wr.cell? ⟨g0, k * 2 + 1, none⟩ = some (.int .i64 (p : Int)) := (World.cell?_of_block (hC.block g0 hg2 (by have := zF.out; have := z5h.out; have := hB5z; omega))).trans hgc
      have hnx := runP_next most (r.any, r.line, r.half) hp
      have hln := runP_len (most := most) ((ptsL rn.1).take k) (r.any, r.line, r.half) hll
      have hcn := runP_count (most := most) ((ptsL rn.1).take k) (r.any, r.line, r.half)
      have hcn2 : (runP most (r.any, r.line, r.half) ((ptsL rn.1).take k)).1.length ≤ 6000 := by rw [List.length_take] at hcn; omega
      clear hcn hin hgc hg0 hg1 hg2 hp
      generalize runP most (r.any, r.line, r.half) ((ptsL rn.1).take k) = st at hv hM hnx hln hcn2
      obtain ⟨ls, any, line, half⟩ := st
      simp only at hv hnx hln hcn2
      have hM' : Has wr w.heap.size 49 #[.slice A3 m3 c3, .int .i64 (most : Int), .string ⟨line.toArray⟩, .bool any, .bool half] := hM
      have e3 := hM'.cell 3
      have f3 := hM'.free 3
      have hM7 : Has (wr.setCell ⟨w.heap.size, 3, none⟩ (.bool true)) w.heap.size 49 #[.slice A3 m3 c3, .int .i64 (most : Int), .string ⟨line.toArray⟩, .bool true, .bool half] := by simpa using hM'.put 3 (.bool true)
      have hC7 : Chg (· = w.heap.size) w6 (wr.setCell ⟨w.heap.size, 3, none⟩ (.bool true)) := hC.set (k := w.heap.size) rfl 3 _
      have hv7 : Lns (wr.setCell ⟨w.heap.size, 3, none⟩ (.bool true)) w6.heap.size _ ls := hv.kept (fun g hg => Below.heap_setCell _ ⟨w.heap.size, 3, none⟩ _ g (by show g ≠ w.heap.size; have := (hv.own g hg).1; omega))
      have hz7 : (wr.setCell ⟨w.heap.size, 3, none⟩ (.bool true)).heap.size = wr.heap.size := by simp
      obtain ⟨w7, hw7⟩ : ∃ w7, wr.setCell ⟨w.heap.size, 3, none⟩ (.bool true) = w7 := ⟨_, rfl⟩
      rw [hw7] at hM7 hC7 hv7 hz7
      have hzz7 : w6.heap.size ≤ w7.heap.size := by omega
      have hw7' := Lib.hid hw7
      have hM7' := Lib.hid hM7
      have hC7' := Lib.hid hC7
      have hv7' := Lib.hid hv7
      have hnx' := Lib.hid hnx
      obtain ⟨mk, hmk⟩ : ∃ mk, decide (any = false ∧ p = 65279) = mk := ⟨_, rfl⟩
      obtain ⟨cr, hcr⟩ : ∃ cr, decide (half = true ∧ p = 10) = cr := ⟨_, rfl⟩
      obtain ⟨en, hen⟩ : ∃ en, decide (p = 13 ∨ p = 10) = en := ⟨_, rfl⟩
      have hmk' := Lib.hid hmk
      have hcr' := Lib.hid hcr
      have hen' := Lib.hid hen
      have hki : (k : Int) < (m : Int) := by omega
      have hpt' := Lib.hid hpt
      have hp13 : ((p : Int) == 13) = decide (p = 13) := by rw [Bool.eq_iff_iff, beq_iff_eq, decide_eq_true_iff]; omega
      have hp10 : ((p : Int) == 10) = decide (p = 10) := by rw [Bool.eq_iff_iff, beq_iff_eq, decide_eq_true_iff]; omega
      have hp65 : ((p : Int) == 65279) = decide (p = 65279) := by rw [Bool.eq_iff_iff, beq_iff_eq, decide_eq_true_iff]; omega
      have hp13' := Lib.hid hp13
      have hp10' := Lib.hid hp10
      have hp65' := Lib.hid hp65
      clear hv hM hC hnx hM' hw7 hM7 hC7 hv7 hz7 hmk hcr hen hpt hp13 hp10 hp65
      go_upto_region 11 with (fail)
      rw [hw7'.out]
      clear e3 f3 hgr
      go_cut [44] from 25 to 81 (fun s44 wx => s44 = .bool mk ∧ w7 = wx)
      case first =>
        cases any with
        | true =>
          go_wp2_with fail
          go_meet
          case rel => exact ⟨by rw [← hmk'.out]; simp, rfl⟩
        | false =>
          have h65 := hp65'.out
          go_wp2_with fail
          go_meet
          case rel => exact ⟨by rw [← hmk'.out]; simp, rfl⟩
      case rest =>
        obtain ⟨rfl, hww⟩ := hcut
        subst hww
        cases mk with
        | true =>
          have hd := of_decide_eq_true hmk'.out
          have hst : stepM most (any, line, half) p = ([], true, line, half) := by unfold stepM; rw [if_pos hd]
          have hst' := Lib.hid hst
          clear hst hd
          go_wp2
          have hn := hnx'.out
          rw [hst'.out] at hn
          exact ⟨⟨k + 1, by go_num, by omega, by rw [hn]; simpa using hv7'.out, by rw [hn]; exact hM7'.out, hC7'.out⟩, by simp [intOf]; omega⟩
        | false =>
          have hd := of_decide_eq_false hmk'.out
          have hst : stepM most (any, line, half) p = ((stepP most line half p).1, true, (stepP most line half p).2) := by unfold stepM; rw [if_neg hd]
          have hn := hnx'.out
          rw [hst] at hn
          simp only at hn
          have hn' := Lib.hid hn
          have e4 := hM7'.out.cell 4
          have f4 := hM7'.out.free 4
          clear hst hd hn
          go_upto_region 12 with (fail)
          go_cut [50] from 25 to 81 (fun s50 wx => s50 = .bool cr ∧ w7 = wx)
          case first =>
            cases half with
            | false =>
              go_wp2_with fail
              go_meet
              case rel => exact ⟨by rw [← hcr'.out]; simp, rfl⟩
            | true =>
              have h10 := hp10'.out
              go_wp2_with fail
              go_meet
              case rel => exact ⟨by rw [← hcr'.out]; simp, rfl⟩
          case rest =>
            obtain ⟨rfl, hww⟩ := hcut
            subst hww
            cases cr with
            | true =>
              have hd := of_decide_eq_true hcr'.out
              have hst : stepP most line half p = ([], line, false) := by unfold stepP; rw [if_pos hd]
              have hn := hn'.out
              rw [hst] at hn
              simp only at hn
              have hn2 := Lib.hid hn
              clear hst hd hn
              go_wp2
              have hn := hn2.out
              refine ⟨⟨k + 1, by go_num, by omega, ?_, ?_, hC7'.out.set (k := w.heap.size) rfl 4 _⟩, by simp [intOf]; omega⟩
              · rw [hn]
                simpa using hv7'.out.kept (fun g hg => Below.heap_setCell _ ⟨w.heap.size, 4, none⟩ _ g (by show g ≠ w.heap.size; have := (hv7'.out.own g hg).1; omega))
              · rw [hn]
                show Has _ _ _ _
                simpa using hM7'.out.put 4 (.bool false)
            | false =>
              have hcd := Lib.hid (of_decide_eq_false hcr'.out)
              by_cases h13 : p = 13
              · subst h13
                have hM8 : Has (w7.setCell ⟨w.heap.size, 4, none⟩ (.bool true)) w.heap.size 49 #[.slice A3 m3 c3, .int .i64 (most : Int), .string ⟨line.toArray⟩, .bool true, .bool true] := by simpa using hM7'.out.put 4 (.bool true)
                have hC8 : Chg (· = w.heap.size) w6 (w7.setCell ⟨w.heap.size, 4, none⟩ (.bool true)) := hC7'.out.set (k := w.heap.size) rfl 4 _
                have hv8 : Lns (w7.setCell ⟨w.heap.size, 4, none⟩ (.bool true)) w6.heap.size _ ls := hv7'.out.kept (fun g hg => Below.heap_setCell _ ⟨w.heap.size, 4, none⟩ _ g (by show g ≠ w.heap.size; have := (hv7'.out.own g hg).1; omega))
                have hz8 : (w7.setCell ⟨w.heap.size, 4, none⟩ (.bool true)).heap.size = w7.heap.size := by simp
                obtain ⟨w8, hw8⟩ : ∃ w8, w7.setCell ⟨w.heap.size, 4, none⟩ (.bool true) = w8 := ⟨_, rfl⟩
                rw [hw8] at hM8 hC8 hv8 hz8
                have hz86 : w6.heap.size ≤ w8.heap.size := by omega
                have hw8' := Lib.hid hw8
                have hM8' := Lib.hid hM8
                have hC8' := Lib.hid hC8
                have hv8' := Lib.hid hv8
                clear hw8 hM8 hC8 hv8 hz8
                have hst : stepP most line half 13 = ([oneL most line], [], true) := by
                  unfold stepP
                  rw [if_neg hcd.out, if_pos (by decide)]
                  rfl
                have hn := hn'.out
                rw [hst] at hn
                simp only at hn
                have hn2 := Lib.hid hn
                have hone := Lib.hid (fun W => one_any A3 m3 c3 most line line true true W (by omega) hm)
                obtain ⟨ol, hol⟩ : ∃ ol, oneL most line = ol := ⟨_, rfl⟩
                rw [hol] at hone
                have hol' := Lib.hid hol
                have e0 := hM8'.out.cell 0
                have e1 := hM8'.out.cell 1
                have e2 := hM8'.out.cell 2
                have e3 := hM8'.out.cell 3
                have e4 := hM8'.out.cell 4
                have hlss : Hid (ls.length + 1 ≤ 1099511627776) := Lib.hid (by omega)
                clear hst hn hol
                go_upto_region 16 with (fail)
                rw [hw8'.out]
                go_wp2_with (first
                  | (go_at_call 49; (with_reducible refine Calls.mono (hone.out _) ?_); rintro e w9 ⟨rfl, hb9⟩; have hb9' := Lib.hid hb9; have hv9 := Lib.hid ((hv8'.out.below hb9).below ((Below.refl _ _).alloc (Nat.le_refl _) (.cells #[.string ⟨ol.1.toArray⟩, .bool ol.2] 92))); have hnw := Lib.hid (Has.new w9 92 #[.string ⟨ol.1.toArray⟩, .bool ol.2]); have z9 := hb9.size; clear hb9)
                  | (at_builtin; refine wpList_append_line rfl _ _ rfl rfl hv9.out _ ol.1 ol.2 rfl hnw.out hlss.out (by rw [World.size_alloc]; omega) ?_; intro v3 w3 hv3 hg3; have kT : Has w3 w.heap.size _ _ := (hg3.block w.heap.size (by rw [World.size_alloc]; omega) (fun e => by have := (hv9.out.own _ e.symm).1; omega)).trans ((hM8'.out.below hb9'.out hM8'.out.lt).alloc _); have g2 := kT.cell 2; have h2 := kT.free 2; have kT' := Lib.hid kT; have hv3' := Lib.hid hv3; have hg3' := Lib.hid hg3; clear hv3 hg3 kT))
                have hn3 := hn2.out
                rw [hol'.out] at hn3
                refine ⟨⟨k + 1, by go_num, by omega, ?_, ?_, ?_⟩, by simp [intOf]; omega⟩
                · rw [hn3]
                  exact hv3'.out.kept (fun g hg => Below.heap_setCell _ ⟨w.heap.size, 2, none⟩ _ g (by show g ≠ w.heap.size; have := (hv3'.out.own g hg).1; omega))
                · rw [hn3]
                  show Has _ _ _ _
                  simpa using kT'.out.put 2 (.string ⟨#[]⟩)
                · exact (((hC8'.out.trans (.of_below hb9'.out)).trans (.of_below ((Below.refl _ _).alloc (Nat.le_refl _) _))).grownBy hg3'.out (fun g e => (hv9.out.own g e).1)).set (k := w.heap.size) rfl 2 _
              · by_cases h10 : p = 10
                · subst h10
                  have hM8 : Has (w7.setCell ⟨w.heap.size, 4, none⟩ (.bool false)) w.heap.size 49 #[.slice A3 m3 c3, .int .i64 (most : Int), .string ⟨line.toArray⟩, .bool true, .bool false] := by simpa using hM7'.out.put 4 (.bool false)
                  have hC8 : Chg (· = w.heap.size) w6 (w7.setCell ⟨w.heap.size, 4, none⟩ (.bool false)) := hC7'.out.set (k := w.heap.size) rfl 4 _
                  have hv8 : Lns (w7.setCell ⟨w.heap.size, 4, none⟩ (.bool false)) w6.heap.size _ ls := hv7'.out.kept (fun g hg => Below.heap_setCell _ ⟨w.heap.size, 4, none⟩ _ g (by show g ≠ w.heap.size; have := (hv7'.out.own g hg).1; omega))
                  have hz8 : (w7.setCell ⟨w.heap.size, 4, none⟩ (.bool false)).heap.size = w7.heap.size := by simp
                  obtain ⟨w8, hw8⟩ : ∃ w8, w7.setCell ⟨w.heap.size, 4, none⟩ (.bool false) = w8 := ⟨_, rfl⟩
                  rw [hw8] at hM8 hC8 hv8 hz8
                  have hz86 : w6.heap.size ≤ w8.heap.size := by omega
                  have hw8' := Lib.hid hw8
                  have hM8' := Lib.hid hM8
                  have hC8' := Lib.hid hC8
                  have hv8' := Lib.hid hv8
                  clear hw8 hM8 hC8 hv8 hz8
                  have hst : stepP most line half 10 = ([oneL most line], [], false) := by
                    unfold stepP
                    rw [if_neg hcd.out, if_pos (by decide)]
                    rfl
                  have hn := hn'.out
                  rw [hst] at hn
                  simp only at hn
                  have hn2 := Lib.hid hn
                  have hone := Lib.hid (fun W => one_any A3 m3 c3 most line line true false W (by omega) hm)
                  obtain ⟨ol, hol⟩ : ∃ ol, oneL most line = ol := ⟨_, rfl⟩
                  rw [hol] at hone
                  have hol' := Lib.hid hol
                  have e0 := hM8'.out.cell 0
                  have e1 := hM8'.out.cell 1
                  have e2 := hM8'.out.cell 2
                  have e3 := hM8'.out.cell 3
                  have e4 := hM8'.out.cell 4
                  have hlss : Hid (ls.length + 1 ≤ 1099511627776) := Lib.hid (by omega)
                  clear hst hn hol
                  go_upto_region 16 with (fail)
                  rw [hw8'.out]
                  go_wp2_with (first
                    | (go_at_call 49; (with_reducible refine Calls.mono (hone.out _) ?_); rintro e w9 ⟨rfl, hb9⟩; have hb9' := Lib.hid hb9; have hv9 := Lib.hid ((hv8'.out.below hb9).below ((Below.refl _ _).alloc (Nat.le_refl _) (.cells #[.string ⟨ol.1.toArray⟩, .bool ol.2] 92))); have hnw := Lib.hid (Has.new w9 92 #[.string ⟨ol.1.toArray⟩, .bool ol.2]); have z9 := hb9.size; clear hb9)
                    | (at_builtin; refine wpList_append_line rfl _ _ rfl rfl hv9.out _ ol.1 ol.2 rfl hnw.out hlss.out (by rw [World.size_alloc]; omega) ?_; intro v3 w3 hv3 hg3; have kT : Has w3 w.heap.size _ _ := (hg3.block w.heap.size (by rw [World.size_alloc]; omega) (fun e => by have := (hv9.out.own _ e.symm).1; omega)).trans ((hM8'.out.below hb9'.out hM8'.out.lt).alloc _); have g2 := kT.cell 2; have h2 := kT.free 2; have kT' := Lib.hid kT; have hv3' := Lib.hid hv3; have hg3' := Lib.hid hg3; clear hv3 hg3 kT))
                  have hn3 := hn2.out
                  rw [hol'.out] at hn3
                  refine ⟨⟨k + 1, by go_num, by omega, ?_, ?_, ?_⟩, by simp [intOf]; omega⟩
                  · rw [hn3]
                    exact hv3'.out.kept (fun g hg => Below.heap_setCell _ ⟨w.heap.size, 2, none⟩ _ g (by show g ≠ w.heap.size; have := (hv3'.out.own g hg).1; omega))
                  · rw [hn3]
                    show Has _ _ _ _
                    simpa using kT'.out.put 2 (.string ⟨#[]⟩)
                  · exact (((hC8'.out.trans (.of_below hb9'.out)).trans (.of_below ((Below.refl _ _).alloc (Nat.le_refl _) _))).grownBy hg3'.out (fun g e => (hv9.out.own g e).1)).set (k := w.heap.size) rfl 2 _
                · have hM8 : Has (w7.setCell ⟨w.heap.size, 4, none⟩ (.bool false)) w.heap.size 49 #[.slice A3 m3 c3, .int .i64 (most : Int), .string ⟨line.toArray⟩, .bool true, .bool false] := by simpa using hM7'.out.put 4 (.bool false)
                  have hC8 : Chg (· = w.heap.size) w6 (w7.setCell ⟨w.heap.size, 4, none⟩ (.bool false)) := hC7'.out.set (k := w.heap.size) rfl 4 _
                  have hv8 : Lns (w7.setCell ⟨w.heap.size, 4, none⟩ (.bool false)) w6.heap.size _ ls := hv7'.out.kept (fun g hg => Below.heap_setCell _ ⟨w.heap.size, 4, none⟩ _ g (by show g ≠ w.heap.size; have := (hv7'.out.own g hg).1; omega))
                  have hz8 : (w7.setCell ⟨w.heap.size, 4, none⟩ (.bool false)).heap.size = w7.heap.size := by simp
                  obtain ⟨w8, hw8⟩ : ∃ w8, w7.setCell ⟨w.heap.size, 4, none⟩ (.bool false) = w8 := ⟨_, rfl⟩
                  rw [hw8] at hM8 hC8 hv8 hz8
                  have hz86 : w6.heap.size ≤ w8.heap.size := by omega
                  have hw8' := Lib.hid hw8
                  have hM8' := Lib.hid hM8
                  have hC8' := Lib.hid hC8
                  have hv8' := Lib.hid hv8
                  have hf13 : ((p : Int) == 13) = false := by rw [hp13'.out]; exact decide_eq_false h13
                  have hf10 : ((p : Int) == 10) = false := by rw [hp10'.out]; exact decide_eq_false h10
                  clear hw8 hM8 hC8 hv8 hz8
                  have hst : stepP most line half p = ([], (if line.length ≤ most then line ++ ptB p else line), false) := by
                    unfold stepP
                    rw [if_neg hcd.out, if_neg (fun h => h.elim h13 h10)]
                  have hn := hn'.out
                  rw [hst] at hn
                  simp only at hn
                  have hn2 := Lib.hid hn
                  clear hst hn
                  go_upto_region 18 with (fail)
                  rw [hw8'.out]
                  have e1 := hM8'.out.cell 1
                  have e2 := hM8'.out.cell 2
                  have f2 := hM8'.out.free 2
                  obtain ⟨sl, hsl⟩ : ∃ sl : ByteArray, (⟨line.toArray⟩ : ByteArray) = sl := ⟨_, rfl⟩
                  have hslz : sl.size = line.length := by rw [← hsl, size_mk]
                  have hslb : sl.size ≤ 70000 := by omega
                  have e2 : w8.cell? ⟨w.heap.size, 2, none⟩ = some (.string sl) := by rw [← hsl]; exact e2
                  by_cases hle : line.length ≤ most
                  · have hli : (sl.size : Int) ≤ (most : Int) := by omega
                    have hlp := ptB_len p
                    have hby := Lib.hid (fun W => refBytes_any (p : Int) p W rfl hpt'.out)
                    have hcat := Lib.hid (show sl ++ ⟨(ptB p).toArray⟩ = ⟨(line ++ ptB p).toArray⟩ by rw [← hsl]; exact cat_bytes line (ptB p))
                    have hsl' := Lib.hid hsl
                    have hpz : (⟨(ptB p).toArray⟩ : ByteArray).size ≤ 4 := by rw [size_mk]; exact hlp
                    obtain ⟨pb, hpb⟩ : ∃ pb : ByteArray, (⟨(ptB p).toArray⟩ : ByteArray) = pb := ⟨_, rfl⟩
                    rw [hpb] at hpz hcat
                    obtain ⟨pl, hpl⟩ : ∃ pl, (ptB p).length = pl := ⟨_, rfl⟩
                    have hpl' := Lib.hid hpl
                    have hpb' := Lib.hid hpb
                    clear hsl hslz hpl hpb hlp
                    have e2d : w8.drew.cell? ⟨w.heap.size, 2, none⟩ = some (.string sl) := e2
                    have f2d : w8.drew.frozen? ⟨w.heap.size, 2, none⟩ = false := f2
                    go_upto_region 19 with (fail)
                    go_region_with (go_at_call 50; go_loud (refine (hby.out _).mono ?_; rintro e w9 ⟨v9, rfl, hv9, hb9⟩; obtain ⟨A9, c9, rfl, hr9⟩ := hv9.shape; have hcv := hr9.text (P := Tryz.prog) 22 9 5 c9 Tryz.underlying22 Tryz.underlying5 Tryz.underlying9; rw [hpb'.out, hpl'.out] at hcv; rw [hpl'.out]; have kb := (hM8'.out.drew.below hb9 hM8'.out.lt); have g2 : w9.cell? ⟨w.heap.size, 2, none⟩ = some (.string sl) := (congrArg (fun z => some (Value.string z)) hsl'.out) ▸ kb.cell 2; have h2 := kb.free 2; have kb' := Lib.hid kb; have hb9' := Lib.hid hb9; clear kb hv9 hr9 hb9))
                    all_goals
                      go_wp2_with fail
                      have hb89 : Below w8.heap.size w8 w9 := ⟨hb9'.out.os, hb9'.out.tape, hb9'.out.output, hb9'.out.size, hb9'.out.block⟩
                      have hn := hn2.out
                      rw [if_pos hle] at hn
                      have hv9 := hv8'.out.below hb89
                      refine ⟨⟨k + 1, by go_num, by omega, ?_, ?_, (hC8'.out.trans (.of_below hb89)).set (k := w.heap.size) rfl 2 _⟩, by simp [intOf]; omega⟩
                      · rw [hn]
                        simp only [List.append_nil]
                        exact hv9.kept (fun g hg => Below.heap_setCell _ ⟨w.heap.size, 2, none⟩ _ g (by show g ≠ w.heap.size; have := (hv9.own g hg).1; omega))
                      · rw [hn]
                        show Has _ _ _ _
                        simp only
                        rw [← hcat.out]
                        simpa using kb'.out.put 2 (.string (sl ++ pb))
                  · have hli : ¬ (sl.size : Int) ≤ (most : Int) := by omega
                    clear hsl hslz
                    go_wp2
                    have hn := hn2.out
                    rw [if_neg hle] at hn
                    refine ⟨⟨k + 1, by go_num, by omega, ?_, ?_, hC8'.out⟩, by simp [intOf]; omega⟩
                    · rw [hn]
                      simpa using hv8'.out
                    · rw [hn]
                      exact hM8'.out
    · obtain rfl : k = m := by omega
      rw [List.take_of_length_le (by have := hme'.out; omega)] at hv hM
      have hst2 := hstep'.out
      generalize runP most (r.any, r.line, r.half) (ptsL rn.1) = st at hv hM hst2
      obtain ⟨ls, any, line, half⟩ := st
      simp only at hv hst2
      have hM' : Has wr w.heap.size 49 #[.slice A3 m3 c3, .int .i64 (most : Int), .string ⟨line.toArray⟩, .bool any, .bool half] := hM
      have k4r : Has wr (w.heap.size + 1) 49 #[.slice none 0 0, .int .i64 0, .string ⟨#[]⟩, .bool false, .bool false] := hC.has (by omega) k46.out
      have e0 := hM'.cell 0
      have e1 := hM'.cell 1
      have e2 := hM'.cell 2
      have e3 := hM'.cell 3
      have e4 := hM'.cell 4
      have g0 := k4r.cell 0
      have g1 := k4r.cell 1
      have g2 := k4r.cell 2
      have g3 := k4r.cell 3
      have g4 := k4r.cell 4
      have q0 := k4r.free 0
      have q1 := k4r.free 1
      have q2 := k4r.free 2
      have q3 := k4r.free 3
      have q4 := k4r.free 4
      have hv' := Lib.hid hv
      have hC' := Lib.hid hC
      have k4r' := Lib.hid k4r
      have hst2' := Lib.hid hst2
      clear hv hM hC hM' k4r hst2
      go_wp2
      have kF := ((((k4r'.out.put 0 (.slice A3 m3 c3)).put 1 (.int .i64 (most : Int))).put 2 (.string ⟨line.toArray⟩)).put 3 (.bool any)).put 4 (.bool half)
      have x0 := kF.cell 0
      have x1 := kF.cell 1
      have x2 := kF.cell 2
      have x3 := kF.cell 3
      have x4 := kF.cell 4
      refine bodyPost_ret (v := .tuple #[.agg #[.slice A3 m3 c3, .int .i64 (most : Int), .string ⟨line.toArray⟩, .bool any, .bool half], _]) (by simp [results, Tryz.results32, go_sem, x0, x1, x2, x3, x4]; rfl) rfl ?_
      unfold RefWL
      rw [hst2'.out]
      simp only
      rw [hm3'.out]
      have hzr' := hC'.out.size
      refine ⟨A3, c3, _, rfl, ?_, ?_, ?_⟩
      · refine ((hrd6.out.kept (fun b hb => by have h1 := hb.1; have h2 := hb.2; exact hC'.out.block b (by have := z5h.out; omega) (by omega))).kept (fun b hb => by have h1 := hb.1; have h2 := hb.2; exact set5_other wr (w.heap.size + 1) _ _ _ _ _ (by omega))).mono (fun b hb => by have h1 := hb.1; have h2 := hb.2; exact ⟨by omega, by have := z5h.out; simp; omega⟩)
      · exact (hv'.out.kept (fun g hg => set5_other wr (w.heap.size + 1) _ _ _ _ _ (by have := (hv'.out.own g hg).1; have := hzw6; have := z5h.out; omega))).mono hzw6
      · have h1 : Below w.heap.size w wr := hB6.out.trans (hC'.out.below (fun q hq => by omega) hzw6)
        exact ⟨h1.os, h1.tape, h1.output, by simpa using h1.size, fun q hq => (set5_other wr (w.heap.size + 1) _ _ _ _ _ (by omega)).trans (h1.block q hq)⟩
end Go.Proofs.YtlcfpnegpihicaaGreatDoor
