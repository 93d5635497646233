import Derived.Test.YtlcfpnegpihicaaGreatDoorPk29
import Derived.Test.YtlcfpnegpihicaaGreatDoorPk24
import Derived.Test.YtlcfpnegpihicaaGreatDoorPk23
namespace Go.Proofs.YtlcfpnegpihicaaGreatDoor
open Go.RowKit Go.Shelf
attribute [local go_sem] Oper.semAt_some

/-! ## The document's Of -/
theorem stepR_says (l m : Nat) (x : List UInt8) : (rfLines m (rfNew []) (stepR l initR x).1).2 = saysP l m init0 (prNew []) x := by
  have hS := stepR_stepC l initR x
  rw [absC_init] at hS
  have hls : (stepC l init0 x).1 = (stepR l initR x).1 := by rw [hS]
  have hok : ∀ y ∈ (stepR l initR x).1, LineOk l y := fun y hy => by
    obtain ⟨h1, h2, h3, _⟩ := stepC_good (init0_ok l) x y (by rw [hls]; exact hy)
    exact ⟨h1, h2, h3⟩
  unfold saysP
  rw [hls]
  exact (rel_lines (line := l) _ (prNew []) (rfNew []) (relP_new []) (prNil_ok m l) hok).2
set_option maxRecDepth 100000 in
set_option maxHeartbeats 1000000 in
theorem refOfPs_yes (l m n c : Nat) (B : Option Addr) (x : List UInt8) (w : World) (h1 : 1 ≤ l) (h2 : l ≤ 65536) (h3 : 1 ≤ m) (h4 : m ≤ 65536) (hB : Rd w (· < w.heap.size) B x) (hn : n = x.length) (hl : n ≤ 1000) :
    Calls Tryz.prog 8 #[.int .i64 (l : Int), .int .i64 (m : Int), .slice B n c] w (OfO l m x w) := by
  have hrn0 := fun W => refNewPs_yes l m W h1 h2 h3 h4
  have hW0 := fun (W : World) (hb : Below w.heap.size w W) => refWritePs_any none B 0 0 n c l m initR (rfNew []) (prNew []) x W (fun h => absurd h (by simp [initR])) ((hB.kept (Kept.below hb (fun b h => h))).mono (fun b h => Nat.lt_of_lt_of_le h hb.size)) rfl hn (by omega) hl h2 h4 (by simp [initR]) (by rw [absC_init]; exact init0_ok l) (relP_new []) (prNil_ok m l) (by simp [prNew])
  unfold RefWP at hW0
  have hsy := stepR_says l m x
  obtain ⟨z, hz⟩ : ∃ z, stepR l initR x = z := ⟨_, rfl⟩
  rw [hz] at hsy hW0
  have hsy' := Lib.hid hsy
  unfold rpC rfNew at hrn0
  unfold rpC at hW0
  have hrn := Lib.hid hrn0
  have hW := Lib.hid hW0
  simp only [initR, rfNew] at hW
  clear hB hn hrn0 hW0 hsy hz
  obtain ⟨zl, zq⟩ := z
  simp only at hW hsy'
  generalize (rfLines m ⟨[], [], [], false, false⟩ zl).1 = r9 at hW
  generalize hso : (rfLines m ⟨[], [], [], false, false⟩ zl).2 = so at hW
  have hso' := Lib.hid hso
  clear hso
  go_enter Tryz.func8, Tryz.ntmps8
  go_wp2_with (first
    | (go_at_call 13; (with_reducible refine Calls.mono (hrn.out _) ?_); rintro e w2 ⟨rfl, hb2⟩; have hb2' := Lib.hid (hb2.alloc hb2.size (.cells #[.slice none 0 0, .int .i64 (l : Int), .string ⟨#[]⟩, .bool false, .bool false, .int .i64 (m : Int), .string ⟨#[]⟩, .string ⟨#[]⟩, .string ⟨#[]⟩, .bool false, .bool false] 51)); have hk := Has.new w2 51 #[.slice none 0 0, .int .i64 (l : Int), .string ⟨#[]⟩, .bool false, .bool false, .int .i64 (m : Int), .string ⟨#[]⟩, .string ⟨#[]⟩, .string ⟨#[]⟩, .bool false, .bool false]; have y0 := hk.cell 0; have y1 := hk.cell 1; have y2 := hk.cell 2; have y3 := hk.cell 3; have y4 := hk.cell 4; have y5 := hk.cell 5; have y6 := hk.cell 6; have y7 := hk.cell 7; have y8 := hk.cell 8; have y9 := hk.cell 9; have y10 := hk.cell 10; clear hb2 hk)
    | (go_at_call 16; (with_reducible refine Calls.mono (hW.out _ hb2'.out) ?_); rintro e w4 ⟨A4, c4, v4, rfl, _, hL4, hb4⟩; obtain ⟨A5, c5, rfl, _⟩ := hL4.shape; have hL4' := Lib.hid hL4; have hb4' := Lib.hid hb4; obtain ⟨l5, hl5⟩ : ∃ l5, so.length = l5 := ⟨_, rfl⟩; rw [hl5] at hL4' ⊢; clear hL4 hb4 hl5))
  go_ret2
  have hsz := hb2'.out.size
  refine ⟨_, rfl, ?_, ?_⟩
  · rw [← hsy'.out]
    have h := hL4'.out
    rw [← hso'.out] at h
    exact (h.below ((Below.refl _ _).alloc (Nat.le_refl _) _)).mono hsz
  · exact (hb2'.out.trans (hb4'.out.mono hsz)).alloc (by have := hb4'.out.size; omega) _
set_option maxRecDepth 100000 in
theorem refOfPs_no (z1 z2 : Int) (B : Option Addr) (n c : Nat) (w : World) (h : (z1 < 1 ∨ 65536 < z1) ∨ (z2 < 1 ∨ 65536 < z2)) :
    Calls Tryz.prog 8 #[.int .i64 z1, .int .i64 z2, .slice B n c] w fun e w' => e = .returned (.tuple #[.slice none 0 0, .int .i64 2]) ∧ Below w.heap.size w w' := by
  have hrn0 := fun W => refNewPs_no z1 z2 W h
  unfold rpC rfNew at hrn0
  have hrn := Lib.hid hrn0
  clear h hrn0
  go_enter Tryz.func8, Tryz.ntmps8
  go_wp2_with (go_at_call 13; (with_reducible refine Calls.mono (hrn.out _) ?_); rintro e w2 ⟨rfl, hb2⟩; have hb2' := Lib.hid hb2; clear hb2)
  go_ret2
  exact ⟨rfl, hb2'.out.alloc hb2'.out.size _⟩
end Go.Proofs.YtlcfpnegpihicaaGreatDoor

namespace Go.Proofs.YtlcfpnegpihicaaGreatDoor
open Go.RowKit Go.Shelf
attribute [local go_sem] Oper.semAt_some
attribute [local go_sem] wide_fn wide_depth wide_round

/-! ## The law of what bytes say, one by one: what it rests on -/
theorem wpIn_range_lowM {n : Nat} {P : Program} {g : Operand} {ps : Array Tmp} {assign body : Code} {Q : Exit → Act → World → Prop} {a : Act} {w : World}
    (id : Nat) {gf : Nat} {lb : Array Value} (hg : a.eval g = .func (.func gf) #[] lb) (eg : ∀ args w, (callFunc gf args).run P w = .ok (.enter gf args) w)
    {WrO : Nat → Prop} {S Sp : List (Nat × Sd) → Prop} {N : Nat} {w0 : World} (hseq : SeqE (n - 1) P gf lb WrO S Sp N w0)
    (hb0 : Below w0.heap.size w0 w) (hps : ∀ x, (encS x).size = ps.size)
    (I : List (Nat × Sd) → World → Prop) (Ix : Code → List (Nat × Sd) → World → Prop) (M : World → Prop)
    (hI : ∀ pre X Y, I pre X → Below w.heap.size X Y → I pre Y) (hIx : ∀ c pre X Y, Ix c pre X → Below w.heap.size X Y → Ix c pre Y)
    (h0 : I [] w) (hallM : ∀ xs W, S xs → I xs W → M W) (hleftM : ∀ c pre W, Sp pre → Ix c pre W → c = .exit id ∧ M W) (Ax : Nat × Sd → Act → World → Prop) (hAx : ∀ x a' (W : World) (l : Nat) (o o' : Obj), Ax x a' W → W.heap[l]? = some o → o.isCells = false → Ax x a' (W.putObj l o'))
    (hassign : ∀ (l : Nat) (x : Nat × Sd) (W : World) (K : Act → World → Prop), (∀ a' W', Below W.heap.size W W' → Ax x a' W' → K a' W') →
      assign.wpIn (Fence.wide.inRound l) (n - 1 - 1) P (Exit.then K (fun _ _ _ => False)) { tmps := (ps.zip (encS x)).foldl (fun t (p, v) => t.setIfInBounds p v) a.tmps, defers := [] } W)
    (hbody : ∀ (l : Nat) (pre : List (Nat × Sd)) (x : Nat × Sd) (a' : Act) (W : World), w.heap.size ≤ l → (∃ r, W.heap[l]? = some (.loop r)) → w.heap.size ≤ W.heap.size → I pre W → Ax x a' W → pre.length < N → Sp (pre ++ [x]) → body.wpIn (Fence.wide.inRound l) (n - 1 - 1) P (ownPostG w.heap.size (KeepE (fun k => WrO k ∨ k = l)) I Ix (pre ++ [x]) W) a' W)
    (hq : ∀ a W, Q .normal a W → Q (.exit id) a W)
    (hrest : ∀ (D : Nat) (W : World), w.heap.size ≤ D → M W → NoCalls W D → Q .normal { a with defers := { target := .collected D, args := #[] } :: a.defers } W) :
    (Code.rangeFunc g ps assign body).wpIn Fence.wide n P Q a w :=
  wpIn_range_low hg eg hseq hb0 hps I Ix hI hIx h0 Ax hAx hassign hbody (fun D xs W hD hS hI hk => hrest D W hD (hallM xs W hS hI) hk)
    (fun D c pre W hD hS hI hk => by
      obtain ⟨rfl, hM⟩ := hleftM c pre W hS hI
      exact wpIn_exit (hq _ _ (hrest D W hD hM hk)))
theorem Bs.wholeP {W : World} {n0 : Nat} {v : Value} {l : List UInt8} (h : Bs W n0 v l) (h0 : 0 < l.length) : ∃ g c, v = .slice (some ⟨g, 0, none⟩) l.length c ∧ n0 ≤ g ∧ g < W.heap.size ∧ l.length ≤ c ∧ c ≤ maxLen ∧ Rd W (· = g) (some ⟨g, 0, none⟩) l := by
  have hh := h
  rcases h.2 with ⟨rfl, h1⟩ | ⟨g, cap, cur, rfl, hb, hg, hnc, hcm, _⟩
  · omega
  · exact ⟨g, cap, rfl, hb, (Array.getElem?_eq_some_iff.1 hg).1, hnc, hcm, fun _ => ⟨_, rfl, rfl, fun j u hu => World.ownsRow.cells (g := g) hh rfl j u hu⟩⟩
theorem rd_oneP (W : World) (b : UInt8) : Rd (W.alloc (.cells #[byt b] 5)) (· = W.heap.size) (some ⟨W.heap.size, 0, none⟩) [b] := Has.rd (t := 5) (Has.new W _ _)
def badP (z y : Int) : Int := if (1 ≤ z ∧ z ≤ 65536) ∧ 1 ≤ y ∧ y ≤ 65536 then 0 else 2
theorem saysE_len (z y : Int) (x : List UInt8) : (saysE z y x).length ≤ 3 * x.length ∧ ∀ s ∈ saysE z y x, SdOk s := by
  unfold saysE
  split
  · rename_i h
    refine ⟨?_, fun s hs => ?_⟩
    · have := saysP_count (most := z.toNat) (m := y.toNat) init0 (prNew []) x
      have hz2 : init0.ws.length = 0 := rfl
      omega
    · exact saysP_sd (init0_ok z.toNat) (prNil_ok y.toNat z.toNat) (by omega) (by omega) (Nat.zero_le _) x s hs
  · exact ⟨Nat.zero_le _, fun s hs => absurd hs (by simp)⟩
def OfZP (z y : Int) (x : List UInt8) (w : World) (e : Ending) (w' : World) : Prop :=
  ∃ v, e = .returned (.tuple #[v, .int .i64 (badP z y)]) ∧ Sds w' w.heap.size v (saysE z y x) ∧ Below w.heap.size w w'
theorem ofP_all (z y : Int) (x : List UInt8) (A : Option Addr) (n c : Nat) (w : World) (hn : n = x.length) (hc : n ≤ c) (hcm : c ≤ 9223372036854775807) (hl : n ≤ 4096) (hr : Rd w (· < w.heap.size) A x) (hT : PsT0 w) :
    Calls Tryz.prog 7 #[.int .i64 z, .int .i64 y, .slice A n c] w (OfZP z y x w) := by
  by_cases hz : (1 ≤ z ∧ z ≤ 65536) ∧ 1 ≤ y ∧ y ≤ 65536
  · obtain ⟨l, rfl⟩ : ∃ l : Nat, z = (l : Int) := ⟨z.toNat, by omega⟩
    obtain ⟨m, rfl⟩ : ∃ m : Nat, y = (m : Int) := ⟨y.toNat, by omega⟩
    refine (ofPs_yes 0 l m n c A x w (by omega) (by omega) (by omega) (by omega) hn hc hcm hl hr hT.g hT.f hT.low).mono ?_
    rintro e w' ⟨v, rfl, h1, h2⟩
    refine ⟨v, by unfold badP; rw [if_pos hz], ?_, h2⟩
    unfold saysE
    rw [if_pos hz]
    exact h1
  · refine (ofPs_no z y A n c w hT.g (by omega)).mono ?_
    rintro e w' ⟨rfl, hb⟩
    refine ⟨_, by unfold badP; rw [if_neg hz], ?_, hb⟩
    unfold saysE
    rw [if_neg hz]
    exact sds_nil _ _
theorem refOfP_all (z y : Int) (x : List UInt8) (B : Option Addr) (n c : Nat) (w : World) (hB : Rd w (· < w.heap.size) B x) (hn : n = x.length) (hl : n ≤ 1000) :
    Calls Tryz.prog 8 #[.int .i64 z, .int .i64 y, .slice B n c] w (OfZP z y x w) := by
  by_cases hz : (1 ≤ z ∧ z ≤ 65536) ∧ 1 ≤ y ∧ y ≤ 65536
  · obtain ⟨l, rfl⟩ : ∃ l : Nat, z = (l : Int) := ⟨z.toNat, by omega⟩
    obtain ⟨m, rfl⟩ : ∃ m : Nat, y = (m : Int) := ⟨y.toNat, by omega⟩
    refine (refOfPs_yes l m n c B x w (by omega) (by omega) (by omega) (by omega) hB hn hl).mono ?_
    rintro e w' ⟨v, rfl, h1, h2⟩
    refine ⟨v, by unfold badP; rw [if_pos hz], ?_, h2⟩
    unfold saysE
    rw [if_pos hz]
    exact h1
  · refine (refOfPs_no z y B n c w (by omega)).mono ?_
    rintro e w' ⟨rfl, hb⟩
    refine ⟨_, by unfold badP; rw [if_neg hz], ?_, hb⟩
    unfold saysE
    rw [if_neg hz]
    exact sds_nil _ _
/-- What the iterator rests on. -/
def EaP (z y : Int) (x : List UInt8) (bL p : Nat) (A PA : Option Addr) (pc : Nat) (W : World) : Prop :=
  Has W bL 3 #[.int .i64 z] ∧ Has W (bL + 1) 3 #[.int .i64 y] ∧ Has W p 76 #[.slice PA (pcs x).length pc] ∧ Rd W (fun q => q < W.heap.size) A x ∧
    (∀ (k : Nat) (u : List UInt8), (pcs x)[k]? = some u → u = x ∧ ∃ g cs, PA = some ⟨g, 0, none⟩ ∧ Has W g 22 cs ∧ k = 0 ∧ cs[0]? = some (.slice A x.length x.length))
theorem EaP.below {z y : Int} {x : List UInt8} {bL p : Nat} {A PA : Option Addr} {pc : Nat} {W W' : World} (h : EaP z y x bL p A PA pc W) (hb : Below W.heap.size W W') : EaP z y x bL p A PA pc W' := by
  obtain ⟨h1, h2, h3, h4, h5⟩ := h
  refine ⟨h1.below hb h1.lt, h2.below hb h2.lt, h3.below hb h3.lt, (h4.kept (Kept.below hb (fun q hq => hq))).mono (fun q hq => Nat.lt_of_lt_of_le hq hb.size), fun k u hu => ?_⟩
  obtain ⟨e, g, cs, a, b, c, d⟩ := h5 k u hu
  exact ⟨e, g, cs, a, b.below hb b.lt, c, d⟩
theorem eachP1_at (z y : Int) (x : List UInt8) (w7 W : World) (bL p k : Nat) (A PA : Option Addr) (pc : Nat) (hb : Below w7.heap.size w7 W) (hk : w7.heap.size ≤ k) (hkW : k < W.heap.size) (hxl : x.length ≤ 4096) (hT : PsT0 w7) (h : EaP z y x bL p A PA pc w7) :
    SeqE 5 Tryz.prog 25 #[.pointer (some ⟨bL, 0, none⟩), .pointer (some ⟨bL + 1, 0, none⟩), .pointer (some ⟨p, 0, none⟩)] (· = k) (fun xs => xs = numS 0 (saysE z y x)) (fun pre => ∃ k, 0 < k ∧ pre = (numS 0 (saysE z y x)).take k) (saysE z y x).length W := by
  obtain ⟨h1, h2, h3, h4, h5⟩ := h
  have l1 := h1.lt
  have l2 := h2.lt
  have l3 := h3.lt
  have hs := hb.size
  have hTW := hT.below hb
  refine eachP1_seq z y x bL (bL + 1) p w7.heap.size (· = k) A PA pc W hxl (fun e => by have e : bL = k := e; omega) (fun e => by have e : bL + 1 = k := e; omega) (fun e => by have e : p = k := e; omega) hTW.g hTW.f hT.low hs (fun j hj => by have hj : j = k := hj; omega) (h1.below hb l1) (h2.below hb l2) (h3.below hb l3) ?_ ?_
  · exact (h4.kept (Kept.below hb (fun q hq => hq))).mono (fun q hq => ⟨by have hq : q < w7.heap.size := hq; omega, fun e => by have hq : q < w7.heap.size := hq; have e : q = k := e; omega⟩)
  · intro i u hu
    obtain ⟨e, g, cs, a, b, c, d⟩ := h5 i u hu
    have l4 := b.lt
    exact ⟨e, g, cs, a, fun e => by have e : g = k := e; omega, b.below hb l4, c, d⟩
/-! What lies while what is said is gone over. -/
def OMp (w7 : World) (T k : Nat) (t : Int) (ds : List Nat) (n : Int) (W : World) : Prop :=
  Below w7.heap.size w7 W ∧ Has W T 3 #[.int .i64 t] ∧ Has W k 3 #[.int .i64 n] ∧ ∀ D ∈ ds, NoCalls W D
theorem OMp.low {w7 X Y : World} {T k : Nat} {t : Int} {ds : List Nat} {n : Int} {B : Nat} (h : OMp w7 T k t ds n X) (hb : Below B X Y) (hB : w7.heap.size ≤ B) (hT : T < B) (hk : k < B) (hds : ∀ D ∈ ds, D < B) : OMp w7 T k t ds n Y :=
  ⟨h.1.trans (hb.mono hB), (hb.block T hT).trans h.2.1, (hb.block k hk).trans h.2.2.1, fun D hD => (hb.block D (hds D hD)).trans (h.2.2.2 D hD)⟩
theorem OMp.count {w7 W : World} {T k : Nat} {t : Int} {ds : List Nat} {n : Int} (h : OMp w7 T k t ds n W) (hk : w7.heap.size ≤ k) (hTk : T ≠ k) (n' : Int) : OMp w7 T k t ds n' (W.setCell ⟨k, 0, none⟩ (.int .i64 n')) :=
  ⟨h.1.setCell (p := ⟨k, 0, none⟩) hk _, h.2.1.other hTk _, h.2.2.1.put 0 _, fun D hD => (h.2.2.2 D hD).set h.2.2.1 _⟩
theorem OMp.drewN {w7 W : World} {T k : Nat} {t : Int} {ds : List Nat} {n : Int} (h : OMp w7 T k t ds n W) (q : Nat) : OMp w7 T k t ds n (W.drewN q) := ⟨below_draws h.1 q, h.2.1, h.2.2.1, h.2.2.2⟩
def opCount (m : Int) (N : Nat) (t : Int) : Int := if t = 0 then min (N : Int) (max 1 m) else N
def FitS (ls : List Sd) (pre : List (Nat × Sd)) : Prop := pre = (numS 0 ls).take pre.length
def OIp (w7 : World) (ls : List Sd) (m : Int) (T k : Nat) (t : Int) (ds : List Nat) (pre : List (Nat × Sd)) (W : World) : Prop :=
  (t = 0 → pre.length = 0 ∨ (pre.length : Int) < m) ∧ OMp w7 T k t ds pre.length W
def OXp (w7 : World) (ls : List Sd) (m : Int) (T k : Nat) (t : Int) (ds : List Nat) (c : Code) (pre : List (Nat × Sd)) (W : World) : Prop :=
  c = .exit 2 ∧ t = 0 ∧ pre.length ≤ ls.length ∧ m ≤ (pre.length : Int) ∧ (pre.length = 1 ∨ (pre.length : Int) - 1 < m) ∧ 0 < pre.length ∧ OMp w7 T k t ds pre.length W
theorem numS_get : ∀ (l : List Sd) (n i : Nat), (numS n l)[i]? = l[i]?.map fun x => (n + i, x)
  | [], _, _ => by simp [numS]
  | x :: r, n, 0 => by simp [numS]
  | x :: r, n, i + 1 => by
    simp only [numS, List.getElem?_cons_succ, numS_get r (n + 1) i]
    rw [show n + 1 + i = n + (i + 1) from by omega]
/-- What is told next. -/
theorem said_last {ls : List Sd} {pre : List (Nat × Sd)} {x : Nat × Sd} (h : ∃ k, 0 < k ∧ pre ++ [x] = (numS 0 ls).take k) : x.1 = pre.length ∧ ls[pre.length]? = some x.2 := by
  obtain ⟨k, _, h2⟩ := h
  have hg := congrArg (fun l => l[pre.length]?) h2
  have hl := congrArg List.length h2
  simp only [List.length_append, List.length_singleton, List.length_take, numS_len] at hl
  rw [List.getElem?_append_right (Nat.le_refl _), Nat.sub_self, List.getElem?_take, if_pos (by omega), numS_get] at hg
  simp only [List.getElem?_cons_zero, Nat.zero_add] at hg
  cases ha : ls[pre.length]? with
  | none => rw [ha] at hg; simp at hg
  | some y =>
    rw [ha] at hg
    simp only [Option.map_some, Option.some.injEq] at hg
    rw [hg]
    exact ⟨rfl, rfl⟩
section
variable {w7 : World} {ls : List Sd} {m : Int} {T k : Nat} {t : Int} {ds : List Nat}
theorem OIp.low {pre : List (Nat × Sd)} {X Y : World} {B : Nat} (h : OIp w7 ls m T k t ds pre X) (hb : Below B X Y) (hB : w7.heap.size ≤ B) (hT : T < B) (hk : k < B) (hds : ∀ D ∈ ds, D < B) : OIp w7 ls m T k t ds pre Y := ⟨h.1, h.2.low hb hB hT hk hds⟩
theorem OXp.low {c : Code} {pre : List (Nat × Sd)} {X Y : World} {B : Nat} (h : OXp w7 ls m T k t ds c pre X) (hb : Below B X Y) (hB : w7.heap.size ≤ B) (hT : T < B) (hk : k < B) (hds : ∀ D ∈ ds, D < B) : OXp w7 ls m T k t ds c pre Y := by
  obtain ⟨h1, h2, h3, h4, h5, h6, h7⟩ := h
  exact ⟨h1, h2, h3, h4, h5, h6, h7.low hb hB hT hk hds⟩
theorem op_all {xs : List (Nat × Sd)} {W : World} (h : xs = numS 0 ls) (hI : OIp w7 ls m T k t ds xs W) : OMp w7 T k t ds (opCount m ls.length t) W := by
  obtain ⟨hc, hM⟩ := hI
  have hl : xs.length = ls.length := by rw [h, numS_len]
  have : (xs.length : Int) = opCount m ls.length t := by
    unfold opCount
    split
    · rename_i ht
      have := hc ht
      by_cases h0 : xs.length = 0
      · omega
      · omega
    · omega
  rw [← this]; exact hM
theorem op_left {c : Code} {pre : List (Nat × Sd)} {W : World} (hI : OXp w7 ls m T k t ds c pre W) : c = .exit 2 ∧ OMp w7 T k t ds (opCount m ls.length t) W := by
  obtain ⟨rfl, rfl, hle, h1, h2, h3, hM⟩ := hI
  refine ⟨rfl, ?_⟩
  have : (pre.length : Int) = opCount m ls.length 0 := by unfold opCount; simp; omega
  rw [← this]; exact hM
end
end Go.Proofs.YtlcfpnegpihicaaGreatDoor
