import Derived.Test.YtbmemkbfignlaaaGreatDoorPk10
import Derived.Test.YtbmemkbfignlaaaGreatDoorPk4
import Derived.Shelf.Small.Wraps
import Derived.Shelf.Strings.OnBuilder
import Derived.Shelf.Strings.Prefix
import Derived.Test.YtbmemkbfignlaaaGreatDoorProg
import Derived.Test.YtbmemkbfignlaaaGreatDoorPk33
import Derived.Test.YtbmemkbfignlaaaGreatDoorPk32
import Derived.Lib.Join
import Derived.Test.YtbmemkbfignlaaaGreatDoorPk17
/- The contracts of the library that these proofs lean on, laid at this program by the guide's own command, in plain words. -/
namespace Go.Proofs
open Go.Shelf
def Tryz.lays156_ren : Go.Shelf.Ren := ⟨fun | 156 => 124 | 165 => 151 | 166 => 152 | 169 => 153 | 240 => 173 | 241 => 174 | 276 => 187 | 277 => 188 | n => n, fun | 31 => 29 | 9 => 9 | 3 => 3 | 4 => 4 | 0 => 0 | 20 => 20 | 72 => 174 | 76 => 178 | 70 => 172 | 37 => 86 | 75 => 177 | 127 => 147 | 164 => 205 | 5 => 5 | 80 => 180 | n => n, fun | n => n⟩
theorem Tryz.lays156 : Go.Proofs.Lays.n156 Tryz.prog Tryz.lays156_ren := {
  mixed := by kernel_rfl
  f156 := Tryz.func124.trans (congrArg some (by kernel_rfl))
  f165 := Tryz.func151.trans (congrArg some (by kernel_rfl))
  f166 := Tryz.func152.trans (congrArg some (by kernel_rfl))
  f169 := Tryz.func153.trans (congrArg some (by kernel_rfl))
  f240 := Tryz.func173.trans (congrArg some (by kernel_rfl))
  f241 := Tryz.func174.trans (congrArg some (by kernel_rfl))
  f276 := Tryz.func187.trans (congrArg some (by kernel_rfl))
  f277 := Tryz.func188.trans (congrArg some (by kernel_rfl))
  t0 := Tryz.underlying0
  a0 := Tryz.isAgg0
  z0 := Tryz.sizeOf0
  v0 := Tryz.zeroValue0
  t3 := Tryz.underlying3
  a3 := Tryz.isAgg3
  z3 := Tryz.sizeOf3
  v3 := Tryz.zeroValue3
  t4 := Tryz.underlying4
  a4 := Tryz.isAgg4
  z4 := Tryz.sizeOf4
  v4 := Tryz.zeroValue4
  t9 := Tryz.underlying9
  a9 := Tryz.isAgg9
  z9 := Tryz.sizeOf9
  v9 := Tryz.zeroValue9
  t20 := Tryz.underlying20
  a20 := Tryz.isAgg20
  z20 := Tryz.sizeOf20
  v20 := Tryz.zeroValue20
  t31 := Tryz.underlying29
  a31 := Tryz.isAgg29
  z31 := Tryz.sizeOf29
  v31 := Tryz.zeroValue29
  t37 := Tryz.underlying86
  a37 := Tryz.isAgg86
  z37 := Tryz.sizeOf86
  v37 := Tryz.zeroValue86
  t70 := Tryz.underlying172
  a70 := Tryz.isAgg172
  z70 := Tryz.sizeOf172
  v70 := Tryz.zeroValue172
  t72 := Tryz.underlying174
  a72 := Tryz.isAgg174
  z72 := Tryz.sizeOf174
  v72 := Tryz.zeroValue174
  t75 := Tryz.underlying177
  a75 := Tryz.isAgg177
  z75 := Tryz.sizeOf177
  v75 := Tryz.zeroValue177
  t76 := Tryz.underlying178
  a76 := Tryz.isAgg178
  z76 := Tryz.sizeOf178
  v76 := Tryz.zeroValue178
  t127 := Tryz.underlying147
  a127 := Tryz.isAgg147
  z127 := Tryz.sizeOf147
  v127 := Tryz.zeroValue147
  t164 := Tryz.underlying205
  a164 := Tryz.isAgg205
  z164 := Tryz.sizeOf205
  v164 := Tryz.zeroValue205 }
theorem Tryz.Builder_Extra_156 : Builder.Extra Tryz.prog Tryz.lays156_ren := {
  sizeBuilder := by kernel_rfl
  liesBuilder := by kernel_rfl
  t5 := Tryz.underlying5
  a5 := Tryz.isAgg5
  z5 := Tryz.sizeOf5
  v5 := Tryz.zeroValue5
  infoByte := by kernel_rfl
  cellsByte := by kernel_rfl
  sizeByte := by kernel_rfl
  neB5 := by decide }
open Go.RowKit in
theorem Tryz.strings_Join_none (a : Option Addr) (c : Nat) (sep : ByteArray) (w : World) :
    Calls Tryz.prog 124 #[.slice a 0 c, .string sep] w fun e w' => e = .returned (.string ⟨#[]⟩) ∧ w' = w := Any.strings_Join_none Tryz.lays156 Tryz.Builder_Extra_156 a c sep w
open Go.RowKit in
theorem Tryz.strings_Join (bk o c : Nat) (xs : List ByteArray) (sep : ByteArray) (w : World) (hcells : ∀ (j : Nat) x, xs[j]? = some x → w.cell? ⟨bk, o + j, none⟩ = some (.string x)) (hbk : bk < w.heap.size) (hN : xs.length ≤ 140737488355328) (hcap : xs.length ≤ c) (hlen : (Lib.join (xs.map (·.data.toList)) sep.data.toList).length ≤ 140737488355328) :
    Calls Tryz.prog 124 #[.slice (some ⟨bk, o, none⟩) xs.length c, .string sep] w fun e w' => e = .returned (.string ⟨(Lib.join (xs.map (·.data.toList)) sep.data.toList).toArray⟩) ∧ Below w.heap.size w w' := Any.strings_Join Tryz.lays156 Tryz.Builder_Extra_156 bk o c xs sep w hcells hbk hN hcap hlen
def Tryz.lays103_ren : Go.Shelf.Ren := ⟨fun | 103 => 169 | 210 => 182 | 206 => 158 | n => n, fun | 9 => 9 | 4 => 4 | 24 => 191 | 3 => 3 | n => n, fun | n => n⟩
theorem Tryz.lays103 : Go.Proofs.Lays.n103 Tryz.prog Tryz.lays103_ren := {
  mixed := by kernel_rfl
  f103 := Tryz.func169.trans (congrArg some (by kernel_rfl))
  f206 := Tryz.func158.trans (congrArg some (by kernel_rfl))
  f210 := Tryz.func182.trans (congrArg some (by kernel_rfl))
  t3 := Tryz.underlying3
  a3 := Tryz.isAgg3
  z3 := Tryz.sizeOf3
  v3 := Tryz.zeroValue3
  t4 := Tryz.underlying4
  a4 := Tryz.isAgg4
  z4 := Tryz.sizeOf4
  v4 := Tryz.zeroValue4
  t9 := Tryz.underlying9
  a9 := Tryz.isAgg9
  z9 := Tryz.sizeOf9
  v9 := Tryz.zeroValue9
  t24 := Tryz.underlying191
  a24 := Tryz.isAgg191
  z24 := Tryz.sizeOf191
  v24 := Tryz.zeroValue191 }
open Go.RowKit in
theorem Tryz.strings_CutPrefix (s p : ByteArray) (w : World) :
    Calls Tryz.prog 169 #[.string s, .string p] w fun e w' => e = .returned (.tuple #[.string ⟨(Lib.trimPrefix s.data.toList p.data.toList).toArray⟩, .bool (Lib.hasPrefix s.data.toList p.data.toList)]) ∧ w' = w := Any.strings_CutPrefix Tryz.lays103 s p w
end Go.Proofs

namespace Go.Proofs.YtbmemkbfignlaaaGreatDoor
open Go.RowKit Go.Shelf
attribute [local go_sem] Oper.semAt_some
attribute [local go_sem] wideF_fn wideF_depth wideF_round

/-! ## head.Get -/
set_option maxRecDepth 100000 in
set_option maxHeartbeats 2000000 in
theorem eachH_any (f : List UInt8) (A : Option Addr) (c : Nat) (l : List PairL) (name : List UInt8) (w : World) (hl : l.length ≤ 900000) (hx : Prs w A l) :
    Calls Tryz.prog 123 #[.agg #[.string ⟨f.toArray⟩, .slice A l.length c], .string ⟨name.toArray⟩] w fun e w' =>
      (∃ bNm bF bN v, e = .returned (.func (.func 149) #[] #[.pointer (some ⟨bNm, 0, none⟩), .pointer (some ⟨bF, 0, none⟩)]) ∧ SfEnv w' bF bNm bN v l name ∧ (∀ k, capS bF bNm bN v k → w.heap.size ≤ k)) ∧ Below w.heap.size w w' := by
  obtain ⟨n, hn⟩ : ∃ n, w.heap.size = n := ⟨_, rfl⟩
  obtain ⟨w1, hw1⟩ : ∃ w1, w.alloc (.cells #[.string ⟨f.toArray⟩, .slice A l.length c] 28) = w1 := ⟨_, rfl⟩
  have hB1 : Below w.heap.size w w1 := by rw [← hw1]; exact (Below.refl _ _).alloc (Nat.le_refl _) _
  have z0 : Has w1 n 28 #[.string ⟨f.toArray⟩, .slice A l.length c] := by rw [← hw1, ← hn]; exact Has.new _ _ _
  have s1 : w1.heap.size = n + 1 := by rw [← hw1, World.size_alloc, hn]
  obtain ⟨w2, hw2⟩ : ∃ w2, w1.alloc (.cells #[.string ⟨name.toArray⟩] 9) = w2 := ⟨_, rfl⟩
  have hB2 : Below w1.heap.size w1 w2 := by rw [← hw2]; exact (Below.refl _ _).alloc (Nat.le_refl _) _
  have z1 : Has w2 (n + 1) 9 #[.string ⟨name.toArray⟩] := by rw [← hw2, ← s1]; exact Has.new _ _ _
  have s2 : w2.heap.size = n + 2 := by rw [← hw2, World.size_alloc, s1]
  have z02 := z0.below hB2 z0.lt
  have c1 := z02.cell 1
  have hB12 : Below w.heap.size w w2 := hB1.trans (hB2.mono hB1.size)
  have hcl := Lib.hid (cloneHdrs_any A c l w2 (hx.below hB12) hl)
  have hB12' := Lib.hid hB12
  have z1' := Lib.hid z1
  have s2' := Lib.hid s2
  have hmf : ∀ (fn : Fn) (first cap : Array Value) (w : World), (Instr.makeFunc fn first cap).run Tryz.prog w = .ok (.func fn first cap) w := fun _ _ _ _ => rfl
  clear hB1 hB2 z0 z02 z1 hB12 hx
  go_enter Tryz.func123, Tryz.ntmps123
  go_wp2_with (go_at_call 147; (with_reducible refine Calls.mono hcl.out ?_); rintro e w3 ⟨⟨v, rfl, hv⟩, hb3⟩; obtain ⟨A3, c3, rfl, -⟩ := hv.prs; have hv' := Lib.hid hv; have hb3' := Lib.hid hb3; clear hv hb3)
  go_ret
  have hs3 := hb3'.out.size
  have b4 : Below w3.heap.size w3 (w3.alloc (.cells #[.slice A3 l.length c3] 26)) := (Below.refl _ _).alloc (Nat.le_refl _) _
  obtain ⟨w4, hw4⟩ : ∃ w4, w3.alloc (.cells #[.slice A3 l.length c3] 26) = w4 := ⟨_, rfl⟩
  have k4 := Has.new w3 26 #[.slice A3 l.length c3]
  have s4 : w4.heap.size = w3.heap.size + 1 := by rw [← hw4, World.size_alloc]
  rw [hw4] at b4 k4 ⊢
  have b5 : Below w4.heap.size w4 (w4.alloc (.cells #[.func (.func 148) #[] #[.pointer (some ⟨n + 1, 0, none⟩)]] 167)) := (Below.refl _ _).alloc (Nat.le_refl _) _
  have k5 := Has.new w4 167 #[.func (.func 148) #[] #[.pointer (some ⟨n + 1, 0, none⟩)]]
  have hB : Below w.heap.size w _ := ((hB12'.out.trans (hb3'.out.mono hB12'.out.size)).trans (b4.mono (by omega))).trans (b5.mono (by omega))
  have hv5 := (hv'.out.below b4).below b5
  refine ⟨⟨w4.heap.size, w3.heap.size, n + 1, .slice A3 l.length c3, ?_, ⟨k4.below b5 k4.lt, k5, (((z1'.out.below hb3'.out z1'.out.lt).below b4 (by have := z1'.out.lt; omega)).below b5 (by have := z1'.out.lt; omega)), ⟨hv5.1, ?_⟩⟩, fun k hk => ?_⟩, hB⟩
  · first | rfl | (rw [s1]) | simp [s1]
  · rcases hv5.2 with h | ⟨g, cap, cur, e, _, r⟩
    · exact .inl h
    · exact .inr ⟨g, cap, cur, e, Nat.zero_le _, r⟩
  · rcases hk with h | h | h | h
    · omega
    · omega
    · omega
    · have := (hv'.out.own k h).1; omega
theorem join_eq : ∀ L : List (List UInt8), Lib.join L [44, 32] = Rr.joinL L
  | [] => rfl
  | [x] => by simp [Lib.join, List.intercalate, Rr.joinL]
  | x :: y :: r => by
    have ih := join_eq (y :: r)
    have e : Lib.join (x :: y :: r) [44, 32] = x ++ [44, 32] ++ Lib.join (y :: r) [44, 32] := by simp [Lib.join, List.intercalate, List.intersperse]
    rw [e, ih]
    rfl
theorem joinL_len {m : Nat} : ∀ (L : List (List UInt8)), (∀ x ∈ L, x.length ≤ m) → (Rr.joinL L).length ≤ L.length * (m + 2)
  | [], _ => by simp [Rr.joinL]
  | [x], h => by
    have := h x List.mem_cons_self
    simp [Rr.joinL]; omega
  | x :: y :: r, h => by
    have ih := joinL_len (y :: r) (fun z hz => h z (List.mem_cons_of_mem _ hz))
    have := h x List.mem_cons_self
    have e : (x :: y :: r).length * (m + 2) = (y :: r).length * (m + 2) + (m + 2) := by rw [List.length_cons, Nat.succ_mul]
    unfold Rr.joinL
    rw [List.length_append, List.length_append, e]
    simp only [List.length_cons, List.length_nil] at *
    omega
theorem joinH_any (L : List (List UInt8)) (n0 : Nat) (v : Value) (w : World) (hS : Strs w n0 v L) (hl : L.length ≤ 100000) (hx : ∀ x ∈ L, x.length ≤ 100000) :
    Calls Tryz.prog 124 #[v, .string ⟨#[44, 32]⟩] w fun e w' => e = .returned (.string ⟨(Rr.joinL L).toArray⟩) ∧ Below w.heap.size w w' := by
  rcases Nat.eq_zero_or_pos L.length with h0 | h0
  · obtain rfl := List.length_eq_zero_iff.1 h0
    obtain ⟨A, c, rfl, -⟩ := hS.sl
    refine (Tryz.strings_Join_none A c ⟨#[44, 32]⟩ w).mono ?_
    rintro e w' ⟨rfl, rfl⟩
    exact ⟨rfl, Below.refl _ _⟩
  · obtain ⟨g, c, rfl, hc, _, _, hg, hcs⟩ := strs_txB hS (Nat.le_refl _) h0
    have hm : (L.map fun y => (⟨y.toArray⟩ : ByteArray)).map (·.data.toList) = L := by simp [List.map_map, Function.comp_def]
    have hj := Tryz.strings_Join g 0 c (L.map fun y => ⟨y.toArray⟩) ⟨#[44, 32]⟩ w (fun j x hx => by
      rw [List.getElem?_map] at hx
      cases hL : L[j]? with
      | none => rw [hL] at hx; cases hx
      | some y =>
        rw [hL] at hx
        obtain rfl : ⟨y.toArray⟩ = x := by simpa using hx
        rw [Nat.zero_add]
        exact hcs j y hL) hg (by simp; omega) (by simp; omega) (by
      rw [hm]
      show (Lib.join L [44, 32]).length ≤ _
      rw [join_eq]
      have := joinL_len L hx
      have h2 : L.length * (100000 + 2) ≤ 100000 * (100000 + 2) := Nat.mul_le_mul_right _ hl
      omega)
    rw [hm] at hj
    rw [show (⟨#[44, 32]⟩ : ByteArray).data.toList = [44, 32] from rfl, join_eq, List.length_map] at hj
    exact hj
/-- The values so far. -/
def VlI (n : Nat) (w : World) (L : List (List UInt8)) (U : Nat → Prop) (j : Nat) (V : World) : Prop :=
  ∃ v, Has V (n + 1) 29 #[v] ∧ Strs V n v (L.take j) ∧ (∀ g, v.ownBlock = some g → ¬ U g) ∧ (∀ k, U k → n + 1 < k) ∧ Below n w V ∧ n + 2 ≤ V.heap.size
theorem vlI_turn {n : Nat} {w : World} {L : List (List UInt8)} {U U' : Nat → Prop} {j : Nat} {X Y : World} (h : VlI n w L U j X) (ht : TurnU U U' X Y) : VlI n w L U' j Y := by
  obtain ⟨v, h1, h2, h3, h4, h5, h6⟩ := h
  have n1 : ¬ U (n + 1) := fun h => by have := h4 _ h; omega
  have hg : ∀ g, v.ownBlock = some g → g < X.heap.size := fun g hg => by obtain ⟨_, cs, hc⟩ := h2.own g hg; exact hc.lt
  exact ⟨v, ht.has n1 h1, strs_kept h2 (fun g hg' => ht.same g (hg g hg') (h3 g hg')), fun g hg' => ht.out (h3 g hg') (hg g hg'), fun k hk => (ht.more k hk).elim (h4 k) (fun h => by omega),
    ht.below (fun k hk => by have := h4 k hk; omega) (by omega) h5, by have := ht.size; omega⟩
set_option maxRecDepth 100000 in
set_option maxHeartbeats 8000000 in
theorem getH_any (f : List UInt8) (A : Option Addr) (c : Nat) (l : List PairL) (name : List UInt8) (w : World) (hl : l.length ≤ 1000) (hn : name.length ≤ 100000) (hq : ∀ q ∈ l, q.1.length ≤ 100000 ∧ q.2.length ≤ 100000) (hx : Prs w A l) :
    Calls Tryz.prog 87 #[.agg #[.string ⟨f.toArray⟩, .slice A l.length c], .string ⟨name.toArray⟩] w fun e w' =>
      e = .returned (.tuple #[.string ⟨(Rr.joinL (Rr.vals name l)).toArray⟩, .int .i64 ((Rr.vals name l).length : Int)]) ∧ Below w.heap.size w w' := by
  obtain ⟨n, hz⟩ : ∃ n, w.heap.size = n := ⟨_, rfl⟩
  obtain ⟨wa, hwa⟩ : ∃ wa, w.alloc (.cells #[.string ⟨f.toArray⟩, .slice A l.length c] 28) = wa := ⟨_, rfl⟩
  have hBa : Below w.heap.size w wa := by rw [← hwa]; exact (Below.refl _ _).alloc (Nat.le_refl _) _
  have ka : Has wa n 28 #[.string ⟨f.toArray⟩, .slice A l.length c] := by rw [← hwa, ← hz]; exact Has.new _ _ _
  have za : wa.heap.size = n + 1 := by rw [← hwa, World.size_alloc, hz]
  obtain ⟨wb, hwb⟩ : ∃ wb, wa.alloc (.cells #[.slice none 0 0] 29) = wb := ⟨_, rfl⟩
  have hBb : Below wa.heap.size wa wb := by rw [← hwb]; exact (Below.refl _ _).alloc (Nat.le_refl _) _
  have kb : Has wb (n + 1) 29 #[.slice none 0 0] := by rw [← hwb, ← za]; exact Has.new _ _ _
  have zb : wb.heap.size = n + 1 + 1 := by rw [← hwb, World.size_alloc, za]
  have ka2 := ka.below hBb ka.lt
  have c0 := ka2.cell 0
  have c1 := ka2.cell 1
  have hBw : Below w.heap.size w wb := hBa.trans (hBb.mono hBa.size)
  have hp := Lib.hid (eachH_any f A c l name wb (by omega) (hx.below hBw))
  have hBw' := Lib.hid hBw
  have kb' := Lib.hid kb
  have hq' := Lib.hid hq
  obtain ⟨L, hL⟩ : ∃ L, Rr.vals name l = L := ⟨_, rfl⟩
  obtain ⟨sl, hsl⟩ : ∃ sl, selI name l = sl := ⟨_, rfl⟩
  have hLs : sl.map (fun i => (l.getD i ([], [])).2) = L := by rw [← hsl, ← hL]; exact selI_vals name l
  have hll : sl.length = L.length := by rw [← hLs, List.length_map]
  have hLl : L.length ≤ 1000 := by have := selI_len name l; rw [hsl] at this; omega
  have hLe : ∀ p ∈ L, p.length ≤ 100000 := fun p hp => by
    rw [← hL] at hp
    unfold Rr.vals at hp
    obtain ⟨x, hx, rfl⟩ := List.mem_map.1 hp
    exact (hq x (List.mem_filter.1 hx).1).2
  have hLs' := Lib.hid hLs
  have hLe' := Lib.hid hLe
  rw [hL]
  clear hBa hBb ka ka2 kb hx hq hL hLs hLe hBw
  refine (callsIn_wide (n := 5)).1 ?_
  refine calls_of_wpK Tryz.func87 rfl ?_
  simp only [Tryz.ntmps87, List.size_toArray, List.length_cons, List.length_nil, Nat.reduceAdd, Nat.reduceSub, Array.replicate_succ, Array.replicate_zero, List.push_toArray, List.append_toArray, List.nil_append, List.cons_append]
  refine wpK_after ?_
  go_wp2
  try rw [hwa]
  refine wpK_after ?_
  go_wp2
  try rw [hwb]
  refine wpK_seq (wpK_after ?_)
  go_wp2_with (go_at_call 123; (with_reducible refine Calls.mono hp.out ?_); rintro e w3 ⟨⟨bNm, bF, bN, v0, rfl, hE, hcap⟩, hb3⟩; have hE' := Lib.hid hE; have hcap' := Lib.hid hcap; have hb3' := Lib.hid hb3; clear hE hcap hb3)
  have hseq := each2_seq 6 bNm bF bN v0 l name (by omega) (by omega) (fun q hq => by have := hq'.out q hq; omega) w3 hE'.out
  rw [hsl] at hseq
  have hseq' := Lib.hid hseq
  have hi0 : VlI n w L (capS bF bNm bN v0) 0 w3 := ⟨.slice none 0 0, kb'.out.below hb3'.out kb'.out.lt, by rw [List.take_zero]; exact strs_nil _ _, (fun g hg => by cases hg), (fun k hk => by have := hcap'.out k hk; omega), by rw [← hz]; exact hBw'.out.trans (hb3'.out.mono hBw'.out.size), by have := hb3'.out.size; omega⟩
  have hi0' := Lib.hid hi0
  clear hseq hi0
  refine wpK_block ?_
  refine wpK_range (n := 5) (gf := 149) (lb := #[.pointer (some ⟨bNm, 0, none⟩), .pointer (some ⟨bF, 0, none⟩)]) rfl (enters_of Tryz.func149 (by kernel_rfl) rfl)
    hseq'.out (Below.refl _ _) hE'.out.cap (fun _ => rfl) (VlI n w L) (fun _ _ _ _ => False) [] (fun _ _ => False)
    (fun U U' j X Y h ht => vlI_turn h ht) (fun _ _ _ _ _ _ h _ => h) (fun _ _ _ _ h _ => h) hi0'.out ?a1 ?assign ?body ?done (fun _ _ _ _ _ _ _ _ _ _ _ h _ => h.elim) (fun _ _ _ _ _ _ _ h _ => h.elim)
  case assign =>
    intro l2 x V K hK
    have hK' := Lib.hid hK
    clear hK
    dsimp only [encVl]
    gi_wp2
    exact hK'.out
  case body =>
    rintro l2 U j V hUl ⟨v, h1, h2, h3, h4, h5, h6⟩ hj
    have hjL : j < L.length := by omega
    have hpd : L[j] = (hdA l sl j).2 := by
      have e : L[j]? = some (hdA l sl j).2 := by
        rw [← hLs'.out, List.getElem?_map, List.getElem?_eq_getElem hj]
        unfold hdA idxA
        rw [List.getD_eq_getElem?_getD (l := sl), List.getElem?_eq_getElem hj]
        rfl
      rw [List.getElem?_eq_getElem hjL] at e
      exact Option.some.inj e
    obtain ⟨p, hpj⟩ : ∃ p, (hdA l sl j).2 = p := ⟨_, rfl⟩
    rw [hpj] at hpd
    try rw [hpj]
    have hnx := Lib.hid (show L.take (j + 1) = L.take j ++ [p] by rw [List.take_succ_eq_append_getElem hjL, hpd])
    have d0 := h1.cell 0
    have c0 := fun (u : Value) (t : TypeId) => (h1.alloc (.cells #[u] t)).cell 0
    have hst := Lib.hid (h2.below ((Below.refl V.heap.size V).alloc (Nat.le_refl _) (.cells #[.string ⟨p.toArray⟩] 9)))
    have hnew := Lib.hid (Has.new V 9 #[.string ⟨p.toArray⟩])
    have htl := Lib.hid (show (L.take j).length + 1 ≤ 2000000 by rw [List.length_take]; omega)
    have h1a := h1.alloc (.cells #[.string ⟨p.toArray⟩] 9)
    have hgn := Lib.hid (show ∀ g, v.ownBlock = some g → n + 1 ≠ g from fun g hg e => by
      obtain ⟨_, cs, hc⟩ := h2.own g hg
      subst e
      have e1 : V.heap[n + 1]? = some (.cells _ _ (0, 0)) := h1
      have e2 : V.heap[n + 1]? = some (.cells cs 9 (0, 0)) := hc
      rw [e1] at e2
      injection e2 with e2
      injection e2 with _ e2 _
      exact absurd e2 (by decide))
    have h1' := Lib.hid h1a
    have h3' := Lib.hid h3
    have h4' := Lib.hid h4
    have h5' := Lib.hid h5
    have hUl' := Lib.hid hUl
    clear h1 h2 h3 h4 h5 hUl hpj hpd c0 h1a
    gi_wp2_with (refine strsIn_append (v := v) rfl _ _ rfl rfl hst.out V.heap.size p rfl hnew.out htl.out (by rw [World.size_alloc]; omega) ?_; intro v6 w6 hS6 hg6 ho6; have k6 : Has w6 (n + 1) 29 #[v] := (hg6.block _ h1'.out.lt (fun e => hgn.out _ e.symm rfl)).trans h1'.out; have d6 := k6.cell 0; have f6 := k6.free 0; have k6' := Lib.hid k6; obtain ⟨A6, g6, c6, cur6, hv6, -⟩ := hS6.shape; subst hv6; have hS6' := Lib.hid hS6; have hg6' := Lib.hid hg6; have ho6' := Lib.hid ho6; clear k6 hS6 hg6 ho6; obtain ⟨m6, hm6⟩ : ∃ m, (L.take j ++ [p]).length = m := ⟨_, rfl⟩; rw [hm6] at hS6' ho6' ⊢; clear hm6)
    have hS := hS6'.out
    have hgr := hg6'.out
    have hz6 : V.heap.size + 1 ≤ w6.heap.size := by have := hgr.size; rw [World.size_alloc] at this; exact this
    have hKA : KeptU U V (V.alloc (.cells #[.string ⟨p.toArray⟩] 9)) := KeptU.alloc ⟨Nat.le_refl _, fun _ _ => rfl⟩ hUl'.out _
    have hK6 : KeptU U V w6 := hKA.grown (fun k hk => by have := hUl'.out k hk; rw [World.size_alloc]; omega) hgr (fun g hg => h3'.out g hg)
    have n1 : ¬ U (n + 1) := fun h => by have := h4'.out _ h; omega
    have hB6 : Below n V w6 := by
      have e := (Below.refl n V).alloc (by omega) (.cells #[.string ⟨p.toArray⟩] 9)
      exact ⟨hgr.os.trans e.os, hgr.tape.trans e.tape, hgr.output.trans e.output, Nat.le_trans e.size hgr.size, fun k hk => (hgr.block k (by rw [World.size_alloc]; omega) (fun e => by
        rcases hst.out.own k e.symm with ⟨hnk, _⟩; omega)).trans (e.block k hk)⟩
    refine ⟨hK6.set (p := ⟨n + 1, 0, none⟩) n1 _, .slice A6 m6 c6, ?_, ?_, ?_, h4'.out, ?_, by simp [World.setCell]; omega⟩
    · have := k6'.out.put 0 (.slice A6 m6 c6)
      simpa using this
    · rw [hnx.out]
      refine strs_kept hS (fun g hg => Below.heap_setCell _ _ _ g (fun e => ?_))
      obtain ⟨_, cs, hc⟩ := hS.own g hg
      obtain rfl : g = n + 1 := e
      have e1 : w6.heap[n + 1]? = some (.cells _ _ (0, 0)) := k6'.out
      have e2 : w6.heap[n + 1]? = some (.cells cs 9 (0, 0)) := hc
      rw [e1] at e2
      injection e2 with e2
      injection e2 with _ e2 _
      exact absurd e2 (by decide)
    · intro g hg
      rcases ho6'.out with h | h
      · exact h3'.out g (h.symm.trans hg)
      · rw [hg] at h
        have := Option.some.inj h
        intro hu
        have := hUl'.out g hu
        rw [World.size_alloc] at *
        omega
    · exact (h5'.out.trans hB6).setCell (p := ⟨n + 1, 0, none⟩) (by show n ≤ n + 1; omega) _
  case done =>
    rintro U d W hd hUd hU1 hU2 hUl ⟨v, h1, h2, h3, h4, h5, h6⟩ hk
    rw [List.take_of_length_le (by omega)] at h2
    obtain ⟨A2, c2, hv2, hsl2⟩ := h2.sl
    have hjn := Lib.hid (joinH_any L n v W h2 (by omega) hLe'.out)
    subst hv2
    have d0 := fun (V' : Grown W) => (h1.below V'.below h1.lt).cell 0
    have hjn' := Lib.hid (fun (V' : Grown W) => callsIn_wide (n := 5 - 1).2 (grow_call V' (joinH_any L n (.slice A2 L.length c2) V'.v (h2.below V'.below) (by omega) hLe'.out)))
    have h5' := Lib.hid h5
    have hk' := Lib.hid hk
    clear h1 h2 h3 h4 h5 hsl2 hjn hk
    show wpK _ _ _ _ _
    refine wpK_of ?_
    go_upto_region 5 with (fail)
    refine (wpIn_wide (n := 5)).1 ?_
    dsimp only
    refine wpIn_region_grow (by kernel_rfl) (by kernel_rfl) (by kernel_rfl) ?_
    iterate 6 (gi_big_quiet_step ((gi_at_call 124; exact hjn'.out _)))
    refine wpQuietIn_nil ?_
    intro _ hw'
    obtain ⟨V', hw''⟩ := hw'
    subst hw''
    have hkV : NoCalls V'.v d := hk'.out.below V'.below hk'.out.lt
    have hB9 := h5'.out.trans (V'.below.mono (by omega))
    go_wp2
    refine ⟨by simp, .inl ⟨_, _, rfl, run_takeDeferred hkV, ?_⟩⟩
    refine ⟨.tuple #[.string ⟨(Rr.joinL L).toArray⟩, .int .i64 (L.length : Int)], by simp [results, Tryz.results87, go_sem], rfl, ?_⟩
    have h3z := hb3'.out.size
    rw [hz]
    exact ⟨hB9.os, hB9.tape, hB9.output, by have := hB9.size; simpa [World.putObj] using this, fun i hi => (World.putObj_heap_other (by omega)).trans (hB9.block i hi)⟩
end Go.Proofs.YtbmemkbfignlaaaGreatDoor

namespace Go.Proofs.YtbmemkbfignlaaaGreatDoor
open Go.RowKit Go.Shelf
attribute [local go_sem] Oper.semAt_some

/-! ## What is wrong is given up by -/
def gaveVR (n : Int) : Value := .iface 92 (.agg #[.int .i64 n])
def gaveDR (n : Int) : List PanicEntry := [{ v := gaveVR n, recovered := false }]
abbrev gaveER (n : Int) : Ending := .panicked (gaveDR n)
theorem mustR_yes (n : Int) (w : World) : Calls Tryz.prog 39 #[.bool true, .int .i64 n] w fun e w' => e = .returned (.tuple #[]) ∧ w' = w := by
  go_enter Tryz.func39, Tryz.ntmps39
  go_wp2
  go_end0
  exact ⟨rfl, rfl⟩
theorem mustR_no (n : Int) (w : World) : Calls Tryz.prog 39 #[.bool false, .int .i64 n] w fun e w' => e = gaveER n ∧ w' = w := by
  go_enter Tryz.func39, Tryz.ntmps39
  go_wp2
  exact ⟨rfl, rfl, rfl⟩
/-! ## What is given up is caught -/
set_option maxRecDepth 100000 in
set_option maxHeartbeats 2000000 in
theorem catchR_idle (p : Addr) (w : World) :
    CallsD Tryz.prog 53 #[.pointer (some p)] .returning w fun e u' w' => e = .returned (.tuple #[]) ∧ u' = .returning ∧ w' = w := by
  refine callsD_of_wpS Tryz.func53 rfl fun c₀ cs hu => ?_
  apply wpS_seq
  apply wpS_region
  simp [wpOpsS, go_sem, recoverD, hu, Tryz.ntmps53, Exit.thenS]
  refine wpS_of_wp ?_
  go_wp2
  cases c₀
  simp_all [bodyPostS, results, Tryz.results53]
set_option maxRecDepth 100000 in
set_option maxHeartbeats 2000000 in
theorem catchR_no (b : Nat) (x n : Int) (w : World) (hh : Has w b 42 #[.int .i64 x]) :
    CallsD Tryz.prog 53 #[.pointer (some ⟨b, 0, none⟩)] (.panicking (gaveDR n)) w fun e u' w' =>
      e = .returned (.tuple #[]) ∧ u' = .panicking [{ v := gaveVR n, recovered := true }] ∧ w' = (w.setCell ⟨b, 0, none⟩ (.int .i64 n)).alloc (.cells #[.int .i64 n] 92) := by
  refine callsD_of_wpS Tryz.func53 rfl fun c₀ cs hu => ?_
  apply wpS_seq
  apply wpS_region
  simp [wpOpsS, go_sem, recoverD, hu, Tryz.ntmps53, Exit.thenS, gaveDR]
  have c1 := (hh.alloc (.cells #[.int .i64 n] 92)).cell 0
  have f1 := (hh.alloc (.cells #[.int .i64 n] 92)).free 0
  have hlt := hh.lt
  clear hh
  have hne : ∀ W : World, (binOp BinOp.eql 20 (gaveVR n) .nilIface).run Tryz.prog W = .ok (.bool false) W := fun _ => by kernel_rfl
  have hta : ∀ W : World, (Instr.typeAssert (gaveVR n) 20 92 true).run Tryz.prog W = .ok (.tuple #[.agg #[.int .i64 n], .bool true]) W := fun _ => by kernel_rfl
  unfold gaveVR at hne hta ⊢
  refine wpS_of_wp ?_
  try simp only [Array.replicate_succ, Array.replicate_zero, List.push_toArray, List.append_toArray, List.nil_append, List.cons_append, List.setIfInBounds_toArray, List.set_cons_succ, List.set_cons_zero]
  go_wp2
  cases c₀
  simp_all [bodyPostS, results, Tryz.results53]
set_option maxRecDepth 100000 in
set_option maxHeartbeats 2000000 in
theorem triedR_yes (fn : FuncId) (cap : Array Value) (w : World) (V : World → Prop) (hen : ∀ args W, (callFunc fn args).run Tryz.prog W = .ok (.enter fn args) W) (hset : ∀ X u, V X → V (X.setCell ⟨w.heap.size, 0, none⟩ u))
    (h : Calls Tryz.prog fn cap (w.alloc (.cells #[.int .i64 0] 42)) fun r w' => r = .returned (.tuple #[]) ∧ V w' ∧ Has w' w.heap.size 42 #[.int .i64 0]) :
    Calls Tryz.prog 31 #[.func (.func fn) #[] cap] w fun r w' => r = .returned (.int .i64 0) ∧ V w' := by
  have hmf : ∀ (fn : Fn) (first cap : Array Value) (w : World), (Instr.makeFunc fn first cap).run Tryz.prog w = .ok (.func fn first cap) w := fun _ _ _ _ => rfl
  have h' := Lib.hid h
  have hset' := Lib.hid hset
  clear h hset
  go_enter_defers Tryz.func31, Tryz.ntmps31
  go_wp2_with fail
  try simp only [Array.empty_append, Array.append_empty]
  with_reducible refine Calls.mono h'.out ?_
  rintro r w2 ⟨rfl, hv, hn2⟩
  have c0 := hn2.cell 0
  have f0 := hn2.free 0
  have hv' := Lib.hid hv
  have hn2' := Lib.hid hn2
  clear hv hn2
  go_wp2
  refine leaves_cons (f := 53) (args := #[.pointer (some ⟨w.heap.size, 0, none⟩)]) (by simp) (by simp [go_sem]) ?_
  refine (catchR_idle ⟨w.heap.size, 0, none⟩ _).mono ?_
  rintro e u' w'' ⟨rfl, rfl, rfl⟩
  have c1 := (hn2'.out.put 0 (.int .i64 0)).cell 0
  simp [Leaves, settle, results, Tryz.results31, go_sem, c1]
  exact hset'.out _ _ hv'.out
set_option maxRecDepth 100000 in
set_option maxHeartbeats 2000000 in
theorem triedR_no (fn : FuncId) (cap : Array Value) (n : Int) (w : World) (V : World → Prop) (hen : ∀ args W, (callFunc fn args).run Tryz.prog W = .ok (.enter fn args) W) (hset : ∀ X u, V X → V ((X.setCell ⟨w.heap.size, 0, none⟩ u).alloc (.cells #[.int .i64 n] 92)))
    (h : Calls Tryz.prog fn cap (w.alloc (.cells #[.int .i64 0] 42)) fun r w' => r = gaveER n ∧ V w' ∧ Has w' w.heap.size 42 #[.int .i64 0]) :
    Calls Tryz.prog 31 #[.func (.func fn) #[] cap] w fun r w' => r = .returned (.int .i64 n) ∧ V w' := by
  have hmf : ∀ (fn : Fn) (first cap : Array Value) (w : World), (Instr.makeFunc fn first cap).run Tryz.prog w = .ok (.func fn first cap) w := fun _ _ _ _ => rfl
  have h' := Lib.hid h
  have hset' := Lib.hid hset
  clear h hset
  go_enter_defers Tryz.func31, Tryz.ntmps31
  go_wp2_with fail
  try simp only [Array.empty_append, Array.append_empty]
  with_reducible refine Calls.mono h'.out ?_
  rintro r w2 ⟨rfl, hv, hn2⟩
  have hv' := Lib.hid hv
  have hn2' := Lib.hid hn2
  clear hv hn2
  refine leaves_cons (f := 53) (args := #[.pointer (some ⟨w.heap.size, 0, none⟩)]) (by simp) (by simp [go_sem]) ?_
  refine (catchR_no w.heap.size 0 n _ hn2'.out).mono ?_
  rintro e u' w'' ⟨rfl, rfl, rfl⟩
  have c1 := ((hn2'.out.put 0 (.int .i64 n)).alloc (.cells #[.int .i64 n] 92)).cell 0
  simp [Leaves, settle, results, Tryz.results31, go_sem, c1]
  exact hset'.out _ _ hv'.out
end Go.Proofs.YtbmemkbfignlaaaGreatDoor
