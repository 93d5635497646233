import Derived.Test.YtlcfpnegpihicaaGreatDoorPw4
import Derived.Maps.AppendAt
import Derived.Deep.AppendLies
import Derived.Test.YtlcfpnegpihicaaGreatDoorPw5
import Derived.Lib.AppendStr
import Derived.Lib.BufferWrite
import Derived.Deep.RegionLaw
import Derived.ScopeJumps
import Derived.KernelRfl
import Derived.WalkMore
import Derived.Laws.EntriesVeiled
import Derived.BigRegionIn
import Derived.Shelf.Abstract
import Derived.RangeFuncLeaves
import Derived.Test.YtlcfpnegpihicaaGreatDoorPw2
import Derived.Deep.RegionHeld3
import Derived.Deep.Cut
namespace Go.Proofs.YtlcfpnegpihicaaGreatDoor
open Go.RowKit

/-! ## append of bytes onto a row of the call's own -/

/-- The slice at g, l.length long, is the call's own row; its first cells are these bytes. -/
def Own (W : World) (t : TypeId) (g cap : Nat) (l : List UInt8) : Prop := W.ownsRow g t 1 (.slice (some ⟨g, 0, none⟩) l.length cap) l.length (byts l)
theorem Own.rd {W : World} {t : TypeId} {g cap : Nat} {l : List UInt8} (h : Own W t g cap l) : Rd W (· = g) (some ⟨g, 0, none⟩) l := fun _ =>
  ⟨_, rfl, rfl, fun j u hu => World.ownsRow.cells (g := g) h rfl j u hu⟩
theorem Own.lt {W : World} {t : TypeId} {g cap : Nat} {l : List UInt8} (h : Own W t g cap l) : g < W.heap.size ∧ l.length ≤ cap ∧ cap ≤ maxLen := by
  rcases h.2 with ⟨h1, _⟩ | ⟨g', cap', cur, hv, _, hg, hnc, hcm, _, _⟩
  · cases h1
  · injection hv with hv _ hc
    injection hv with hv
    injection hv with hv
    subst hv; subst hc
    exact ⟨(Array.getElem?_eq_some_iff.1 hg).1, hnc, hcm⟩
/-- A literal without an element. -/
theorem own_empty (w : World) (t : TypeId) : Own (w.alloc (.cells #[] t)) t w.heap.size 0 [] :=
  ⟨rfl, .inr ⟨w.heap.size, 0, #[], rfl, Nat.le_refl _, World.alloc_heap_new w _, Nat.le_refl _, by simp [maxLen], rfl, rfl⟩⟩
/-- Only block g, and what is new, has turned. -/
structure Grew (g : Nat) (w w' : World) : Prop where
  os : w'.os = w.os
  tape : w'.tape = w.tape
  output : w'.output = w.output
  size : w.heap.size ≤ w'.heap.size
  block : ∀ k, k < w.heap.size → k ≠ g → w'.heap[k]? = w.heap[k]?
theorem Grew.below {g B : Nat} {w w' : World} (h : Grew g w w') (hg : B ≤ g) (hB : B ≤ w.heap.size) : Below B w w' := ⟨h.os, h.tape, h.output, h.size, fun k hk => h.block k (by omega) (by omega)⟩

section
variable {P : Program} (w : World)
variable {w} in
end
end Go.Proofs.YtlcfpnegpihicaaGreatDoor

namespace Go.Proofs.YtlcfpnegpihicaaGreatDoor
open Go.RowKit

/-! ## Bytes of the call's own, or nil -/
def Bs (W : World) (n0 : Nat) (v : Value) (l : List UInt8) : Prop := W.ownsRow n0 5 1 v l.length (byts l)
theorem bs_nil (W : World) (n0 : Nat) : Bs W n0 (.slice none 0 0) [] := ⟨rfl, .inl ⟨rfl, rfl⟩⟩
section
variable {W W' : World} {n0 : Nat} {v : Value} {l : List UInt8}
theorem Bs.shape (h : Bs W n0 v l) : ∃ A c, v = .slice A l.length c ∧ Rd W (fun b => n0 ≤ b ∧ b < W.heap.size) A l := by
  have hh := h
  rcases h.2 with ⟨rfl, h0⟩ | ⟨g, cap, cur, rfl, hb, hg, _⟩
  · refine ⟨none, 0, by rw [h0], fun hl => by omega⟩
  · exact ⟨_, cap, rfl, fun _ => ⟨_, rfl, ⟨hb, (Array.getElem?_eq_some_iff.1 hg).1⟩, fun j u hu => World.ownsRow.cells (g := g) hh rfl j u hu⟩⟩
theorem Bs.kept (h : Bs W n0 v l) (k : ∀ g, v.ownBlock = some g → W'.heap[g]? = W.heap[g]?) : Bs W' n0 v l := by
  refine ⟨h.1, ?_⟩
  rcases h.2 with h | ⟨g, cap, cur, rfl, hb, hg, r⟩
  · exact .inl h
  · exact .inr ⟨g, cap, cur, rfl, hb, (k g rfl).trans hg, r⟩
theorem Bs.own (h : Bs W n0 v l) : ∀ g, v.ownBlock = some g → n0 ≤ g ∧ ∃ cs, Has W g 5 cs := by
  intro g hg
  rcases h.2 with ⟨rfl, _⟩ | ⟨g', cap, cur, rfl, hb, hh, r⟩
  · cases hg
  · obtain rfl : g' = g := by simpa [Value.ownBlock] using hg
    exact ⟨hb, cur, hh⟩
theorem Bs.below (h : Bs W n0 v l) (hb : Below W.heap.size W W') : Bs W' n0 v l := h.kept fun g hg => hb.block g (h.own g hg).2.choose_spec.lt
theorem Bs.mono (h : Bs W n0 v l) {n1 : Nat} (hn : n1 ≤ n0) : Bs W n1 v l := by
  refine ⟨h.1, ?_⟩
  rcases h.2 with h | ⟨g, cap, cur, rfl, hb, r⟩
  · exact .inl h
  · exact .inr ⟨g, cap, cur, rfl, Nat.le_trans hn hb, r⟩
end
theorem infoB : (Tryz.prog.info? 5).map (fun i => (i.zero, i.size, i.bytes)) = some (some (.int .u8 0), 1, 1) := by kernel_rfl
theorem info1 : (Tryz.prog.info? 5).map (·.size) = some 1 := by kernel_rfl
/-- append of bytes that are read somewhere. -/
theorem run_append_rd {w : World} {n0 : Nat} {v : Value} {l : List UInt8} (hv : Bs w n0 v l) (S : Nat → Prop) (A : Option Addr) (x : List UInt8) (c : Nat) (hx : Rd w S A x) (hs : l.length + x.length ≤ 140737488355328) (hn : n0 ≤ w.heap.size) (ty : TypeId) :
    ∃ v' w', (Builtin.append_ #[22, 22] ty #[v, .slice A x.length c]).run Tryz.prog w = .ok v' w' ∧ Bs w' n0 v' (l ++ x) ∧ w.grownBy w' v.ownBlock := by
  obtain ⟨i, hi, hz, hz1, hz2⟩ := info_parts infoB
  have nothing : x = [] → ∃ v' w', (Builtin.append_ #[22, 22] ty #[v, .slice A x.length c]).run Tryz.prog w = .ok v' w' ∧ Bs w' n0 v' (l ++ x) ∧ w.grownBy w' v.ownBlock := by
    rintro rfl
    have hl : Bs w n0 v (l ++ []) := by rw [List.append_nil]; exact hv
    have hg : w.grownBy w v.ownBlock := ⟨rfl, rfl, rfl, Nat.le_refl _, fun _ _ _ => rfl⟩
    rcases hv.2 with ⟨rfl, h0⟩ | ⟨g, cap, cur, rfl, hb, hh, hnc, hcm, _⟩
    · refine ⟨_, w, ?_, hl, hg⟩
      cases A <;> simp [Builtin.append_, run_underlying Tryz.underlying22, sizeOf, typeInfo, hi, Builtin.lenOf, Builtin.firstCells]
      all_goals
        have h0 := run_loadCells_list (P := Tryz.prog) w ‹Addr› [] (by simp)
        simp only [List.length_nil] at h0
        simp [h0]
    · refine ⟨_, w, ?_, hl, hg⟩
      cases A <;> simp [Builtin.append_, run_underlying Tryz.underlying22, sizeOf, typeInfo, hi, Builtin.lenOf, Builtin.firstCells, hnc, storeCells]
      all_goals
        have h0 := run_loadCells_list (P := Tryz.prog) w ‹Addr› [] (by simp)
        simp only [List.length_nil] at h0
        simp [h0, storeCells]
  rcases Nat.eq_zero_or_pos x.length with h0 | h0
  · exact nothing (List.eq_nil_of_length_eq_zero h0)
  · obtain ⟨ad, rfl, _, hc⟩ := hx h0
    obtain ⟨v', w', hrun, h2, h3, _, _⟩ := run_append_own_at (P := Tryz.prog) w n0 22 ty 5 i (.int .u8 0) 1 1 Tryz.underlying22 hi hz hz1 hz2 rfl (by decide) v l.length (byts l) hv ad x.length c (byts x) (by simp [byts_length]) hc (byts_one x) (by simp only [maxLen]; omega) (by omega) hn
    refine ⟨v', w', hrun, ?_, h3⟩
    unfold Bs
    rw [List.length_append, byts_append]
    exact h2
/-- append of a text's bytes. -/
theorem run_append_text {w : World} {n0 : Nat} {v : Value} {l : List UInt8} (hv : Bs w n0 v l) (s : ByteArray) (hs : l.length + s.size ≤ 140737488355328) (hn : n0 ≤ w.heap.size) (ty : TypeId) :
    ∃ v' w', (Builtin.append_ #[22, 9] ty #[v, .string s]).run Tryz.prog w = .ok v' w' ∧ Bs w' n0 v' (l ++ s.data.toList) ∧ w.grownBy w' v.ownBlock := by
  obtain ⟨i, hi, hz, hz1, hz2⟩ := info_parts infoB
  obtain ⟨v', w', hrun, h2, h3, _⟩ := Lib.run_append_own_string (P := Tryz.prog) w n0 22 9 ty 5 i Tryz.underlying22 Tryz.underlying9 hi hz hz1 hz2 v l.length (byts l) hv s (by simp only [maxLen]; omega) hs hn
  refine ⟨v', w', hrun, ?_, h3⟩
  unfold Bs
  have e : s.size = s.data.toList.length := by simp only [Array.length_toList]; rfl
  rw [List.length_append, byts_append, ← e]
  exact h2
section
variable {w : World} {ops : Array Oper} {rest : List Oper} {o : Oper} {a : Act} {Q : Exit → Act → World → Prop} {n0 : Nat} {v : Value} {l : List UInt8}
theorem wpList_append_rd (hgd : o.guard = none) (s x : Operand) (ho : o.op = .call { callee := .builtin .append, args := #[s, x], argTypes := #[22, 22] }) (hsv : a.eval s = v) (hv : Bs w n0 v l)
    (S : Nat → Prop) (A : Option Addr) (y : List UInt8) (m c : Nat) (hm : m = y.length) (hxv : a.eval x = .slice A m c) (hx : Rd w S A y) (hs : l.length + y.length ≤ 140737488355328) (hn : n0 ≤ w.heap.size)
    (h : ∀ v' w', Bs w' n0 v' (l ++ y) → w.grownBy w' v.ownBlock → wpList Tryz.prog ops Q rest (a.put o.dst v') w') : wpList Tryz.prog ops Q (o :: rest) a w := by
  subst hm
  refine wpList_plain hgd fun K hK => ?_
  obtain ⟨v', w', hrun, h2, h3⟩ := run_append_rd hv S A y c hx hs hn o.type
  unfold Oper.wp execOp
  simp only [ho, resolve, invoke, builtin, Sem.run_bind, Sem.run_pure, Result.andThen_ok, List.map_toArray, List.map_cons, List.map_nil, hsv, hxv, hrun]
  exact hK _ _ (h v' w' h2 h3)
theorem wpList_append_text (hgd : o.guard = none) (s x : Operand) (ho : o.op = .call { callee := .builtin .append, args := #[s, x], argTypes := #[22, 9] }) (hsv : a.eval s = v) (hv : Bs w n0 v l)
    (t : ByteArray) (hxv : a.eval x = .string t) (hs : l.length + t.size ≤ 140737488355328) (hn : n0 ≤ w.heap.size)
    (h : ∀ v' w', Bs w' n0 v' (l ++ t.data.toList) → w.grownBy w' v.ownBlock → wpList Tryz.prog ops Q rest (a.put o.dst v') w') : wpList Tryz.prog ops Q (o :: rest) a w := by
  refine wpList_plain hgd fun K hK => ?_
  obtain ⟨v', w', hrun, h2, h3⟩ := run_append_text hv t hs hn o.type
  unfold Oper.wp execOp
  simp only [ho, resolve, invoke, builtin, Sem.run_bind, Sem.run_pure, Result.andThen_ok, List.map_toArray, List.map_cons, List.map_nil, hsv, hxv, hrun]
  exact hK _ _ (h v' w' h2 h3)
end
end Go.Proofs.YtlcfpnegpihicaaGreatDoor

namespace Go.Proofs.YtlcfpnegpihicaaGreatDoor
open Go.RowKit Go.Shelf
attribute [local go_sem] Oper.semAt_some
attribute [local go_sem] wide_fn wide_depth wide_round

/-! ## A range over a function, its variable in a box, whose ways out meet -/
theorem wpIn_range_meetsH {α : Type} {F : Fence} {n : Nat} {P : Program} {g : Operand} {ps : Array Tmp} {assign body : Code} {Q : Exit → Act → World → Prop} {a : Act} {w : World}
    (id : Nat) (hro : F.round = none) (h1 : 1 ≤ n) {gf : Nat} {lb : Array Value} (hg : a.eval g = .func (.func gf) #[] lb) (hFg : F.fn gf) (eg : ∀ args w, (callFunc gf args).run P w = .ok (.enter gf args) w)
    {encs : α → Array Value} {Kp : World → World → Prop} {S Sp : List α → Prop} {N : Nat} {w0 : World} (hseq : SeqStopsK F (n - 1) P gf lb encs Kp S Sp N w0)
    (hKt : ∀ {A B C : World}, Kp A B → Kp B C → Kp A C) (hKb : ∀ (W : World) (l : Nat) (o o' : Obj), w.heap.size ≤ l → W.heap[l]? = some o → o.isCells = false → o.isWalk = false → Kp W (W.putObj l o')) (hb0 : Below w0.heap.size w0 w) (hps : ∀ x, (encs x).size = ps.size)
    (I : List α → World → Prop) (Ix : Code → List α → World → Prop) (M : World → Prop) (hI : OwnFrom w.heap.size I) (hIx : ∀ c, OwnFrom w.heap.size (Ix c)) (h0 : I [] w)
    (hall : ∀ xs W, S xs → I xs W → M W) (hleft : ∀ c pre W, Sp pre → Ix c pre W → c = .exit id ∧ M W)
    (Ax : α → Act → World → Prop) (hAx : ∀ x a', OwnFrom w.heap.size (fun (_ : Unit) W => Ax x a' W))
    (hassign : ∀ (l : Nat) (pre : List α) (x : α) (W : World) (K : Act → World → Prop), I pre W → (∀ a' W', KeepsFrom w.heap.size W W' → Kp W W' → I pre W' → Ax x a' W' → K a' W') →
      assign.wpIn (F.inRound l) (n - 1 - 1) P (Exit.then K (fun _ _ _ => False)) { tmps := (ps.zip (encs x)).foldl (fun t (p, v) => t.setIfInBounds p v) a.tmps, defers := [] } W)
    (hbody : ∀ (l : Nat) (pre : List α) (x : α) (a' : Act) (W : World), w.heap.size ≤ l → (∃ r, W.heap[l]? = some (.loop r)) → I pre W → Ax x a' W → pre.length < N → body.wpIn (F.inRound l) (n - 1 - 1) P (ownPostG w.heap.size Kp I Ix (pre ++ [x]) W) a' W)
    (hq : ∀ a W, Q .normal a W → Q (.exit id) a W)
    (hrest : ∀ (D : Nat) (W : World), w.heap.size ≤ D → M W → NoCalls W D → Q .normal { a with defers := { target := .collected D, args := #[] } :: a.defers } W) :
    (Code.rangeFunc g ps assign body).wpIn F n P Q a w :=
  wpIn_rangeFunc_ownH hro h1 hg hFg eg hseq (fun h k => hKt h k) hKb hb0 hps I Ix hI hIx h0 Ax hAx hassign hbody
    (fun D xs W hD hS hI hk => hrest D W hD (hall xs W hS hI) hk)
    (fun D c pre W hD hS hI hk => by
      obtain ⟨rfl, hM⟩ := hleft c pre W hS hI
      exact wpIn_exit (hq _ _ (hrest D W hD hM hk)))
theorem told_len (l : List UInt8) : (told l).length ≤ 4 := by
  unfold told
  split
  · rw [List.length_take]
    by_cases h : l = []
    · rw [h]; simp
    · have := look_size h; omega
  · simp [inst]
theorem conc_len (L : List UInt8) (ps : List Nat) : (conc L ps).length ≤ 4 * ps.length := by
  induction ps with
  | nil => simp [conc]
  | cons p ps ih =>
    have := told_len (L.drop p)
    have e : conc L (p :: ps) = told (L.drop p) ++ conc L ps := rfl
    rw [e, List.length_append, List.length_cons]
    omega
end Go.Proofs.YtlcfpnegpihicaaGreatDoor

namespace Go.Proofs.YtlcfpnegpihicaaGreatDoor
open Go.RowKit Go.Shelf
attribute [local go_sem] Oper.semAt_some
attribute [local go_sem] wide_fn wide_depth wide_round

/-! ## Sound -/
instance (l : List UInt8) : Decidable (SoundL l) := inferInstanceAs (Decidable (_ = _))
def soundB (l : List UInt8) : Bool := decide (SoundL l)
def SdI (w : World) (s : ByteArray) (pre : List (Fin s.data.toList.length)) (W : World) : Prop :=
  (∀ x ∈ pre, (lookAt s.data.toList x.val).st = 0) ∧ Has W w.heap.size 4 #[.bool true] ∧ Below w.heap.size w W
def SdX (w : World) (s : ByteArray) (c : Code) (pre : List (Fin s.data.toList.length)) (W : World) : Prop :=
  c = .exit 0 ∧ (∃ x ∈ pre, (lookAt s.data.toList x.val).st ≠ 0) ∧ Has W w.heap.size 4 #[.bool false] ∧ Below w.heap.size w W
def SdM (w : World) (s : ByteArray) (W : World) : Prop := Has W w.heap.size 4 #[.bool (soundB s.data.toList)] ∧ Below w.heap.size w W
theorem sd_all {w W : World} {s : ByteArray} {xs : List (Fin s.data.toList.length)} (h : Part s.data.toList xs s.size) (hI : SdI w s xs W) : SdM w s W := by
  have hl : s.data.toList.length = s.size := by simp only [Array.length_toList]; rfl
  obtain ⟨h1, h2, h3⟩ := hI
  unfold Part at h
  rw [places_end (by omega), List.append_nil] at h
  have : soundB s.data.toList = true := by
    unfold soundB
    rw [decide_eq_true_eq, sound_places, ← h]
    intro p hp
    obtain ⟨x, hx, rfl⟩ := List.mem_map.1 hp
    exact h1 x hx
  exact ⟨by rw [this]; exact h2, h3⟩
theorem sd_left {w W : World} {s : ByteArray} {c : Code} {pre : List (Fin s.data.toList.length)} (h : ∃ p, p ≤ s.size ∧ Part s.data.toList pre p) (hI : SdX w s c pre W) : c = .exit 0 ∧ SdM w s W := by
  obtain ⟨p, _, hp⟩ := h
  obtain ⟨rfl, ⟨x, hx, hs⟩, h2, h3⟩ := hI
  have : soundB s.data.toList = false := by
    unfold soundB
    rw [decide_eq_false_iff_not, sound_places]
    intro hall
    refine hs (hall x.val ?_)
    unfold Part at hp
    rw [← hp]
    exact List.mem_append_left _ (List.mem_map_of_mem hx)
  exact ⟨rfl, by rw [this]; exact h2, h3⟩
set_option maxRecDepth 100000 in
set_option maxHeartbeats 4000000 in
theorem sound_any (s : ByteArray) (w : World) (hm : s.size ≤ 9223372036854775807) (hT : TabU w) : Calls Tryz.prog 91 #[.string s] w fun e w' => e = .returned (.bool (soundB s.data.toList)) ∧ Below w.heap.size w w' := by
  have hT' := Lib.hid hT
  have hg0 := hT.lt
  have hl' := Lib.hid (show s.data.toList.length = s.size by simp only [Array.length_toList]; rfl)
  clear hT
  refine (callsIn_wide (n := 3)).1 ?_
  refine callsIn_of_wp_marks Tryz.func91 rfl trivial ?_ rfl
  refine wpIn_wide.2 ?_
  simp only [Tryz.ntmps91, List.size_toArray, List.length_cons, List.length_nil, Nat.reduceAdd, Nat.reduceSub, Array.replicate_succ, Array.replicate_zero, List.push_toArray, List.append_toArray, List.nil_append, List.cons_append]
  go_wp2
  refine wp_scope_on 0 rfl ?_
  go_wp2_with fail
  go_step3
  go_wp2_with fail
  refine (readings_any _ _).mono ?_
  rintro e w5 ⟨rfl, rfl⟩
  have hB : Below w.heap.size w ((w.alloc (.cells #[.bool true] 4)).alloc (.cells #[.string s] 9)) := ((Below.refl _ _).alloc (Nat.le_refl _) _).alloc (by simp) _
  have k0 := (Has.new w 4 #[.bool true]).alloc (.cells #[.string s] 9)
  have k1 := Has.new (w.alloc (.cells #[.bool true] 4)) 9 #[.string s]
  simp only [World.size_alloc] at k1
  have hT5 := hT'.out.below hB
  have hB' := Lib.hid hB
  have k0' := Lib.hid k0
  have k1' := Lib.hid k1
  have hT5' := Lib.hid hT5
  clear hB k0 k1 hT5
  go_wp2
  have hB := hB'.out
  have k0 := k0'.out
  have k1 := k1'.out
  have hT5 := hT5'.out
  obtain ⟨w5, hw5⟩ : ∃ w5, (w.alloc (.cells #[.bool true] 4)).alloc (.cells #[.string s] 9) = w5 := ⟨_, rfl⟩
  have hz5 : w5.heap.size = w.heap.size + 1 + 1 := by rw [← hw5]; simp
  rw [hw5] at hB k0 k1 hT5 ⊢
  clear hw5 hB' k0' k1' hT5'
  refine (wpIn_wide (n := 3)).1 ?_
  refine wpIn_range_meetsH 0 rfl (by omega) (gf := 133) (lb := #[.pointer (some ⟨w.heap.size + 1, 0, none⟩)]) rfl trivial (enters_of Tryz.func133 (by kernel_rfl) rfl)
    (readings_stops 2 (by omega) s hm (w.heap.size + 1) (fun k => k = w.heap.size) w5 (fun k hk => by omega) (fun hk => by omega) (fun hk => by omega) hT5 k1)
    (fun h k => h.trans k) (fun W l o o' _ h1 h2 _ => KeepC.putObj W l o o' h1 h2) (Below.refl _ _) (fun _ => rfl)
    (SdI w s) (SdX w s) (SdM w s)
    (fun pre X Y row hs hg hr => ⟨hs.1, hs.2.1.row hg hr, (ownFrom_below (β := Unit) (Nat.le_refl _) (by omega)) () X Y row hs.2.2 hg hr⟩)
    (fun c pre X Y row hs hg hr => ⟨hs.1, hs.2.1, hs.2.2.1.row hg hr, (ownFrom_below (β := Unit) (Nat.le_refl _) (by omega)) () X Y row hs.2.2.2 hg hr⟩)
    ⟨by simp, k0, hB⟩ (fun _ _ => sd_all) (fun _ _ _ => sd_left)
    (AxB ?F 201 (fun x => readV (s.data.toList.drop x.val))) axB_from
    ?assign ?body (fun _ _ h => h) ?rest
  case assign =>
    intro l pre x W K hI hK
    have hK' := Lib.hid hK
    have hI' := Lib.hid hI
    clear hK hI
    have hV : readV (s.data.toList.drop x.val) = readV (s.data.toList.drop x.val) := rfl
    conv at hV => rhs; unfold readV
    have hV' := Lib.hid hV
    dsimp only [encRd]
    rw [hV'.out]
    clear hV
    gi_wp2
    obtain ⟨k, hk⟩ : ∃ k, W.heap.size = k := ⟨_, rfl⟩
    have hnew := Has.new W 201 (readV (s.data.toList.drop x.val))
    rw [hV'.out] at hnew
    have hsz := hI'.out.2.2.size
    rw [hk] at hnew ⊢
    refine hK'.out _ _ ((KeepsOthers.alloc _ _).from _) ((KeepC.refl _ _ _).alloc _) ⟨hI'.out.1, hI'.out.2.1.alloc _, hI'.out.2.2.alloc hsz _⟩ ⟨k, ?_, (show Has _ k _ (readV (s.data.toList.drop x.val)) from by rw [hV'.out]; exact hnew)⟩
    rfl
  case body =>
    rintro l pre x a' W hl ⟨r, hr⟩ ⟨hall, hM, hBW⟩ ⟨k, rfl, hk⟩ hlen
    have hk : Has W k 201 (readV (s.data.toList.drop x.val)) := hk
    unfold readV at hk
    have hall' := Lib.hid hall
    have hM' := Lib.hid hM
    have f0 := hM.free 0
    have c0 := hM.cell 0
    have hBW' := Lib.hid hBW
    clear hall hM hBW hr
    by_cases hst : (lookAt s.data.toList x.val).st = 0
    · have hst' : (look (s.data.toList.drop x.val)).st = 0 := hst
      rw [hst'] at hk
      have c3 := hk.cell 3
      have hst2 := Lib.hid hst
      clear hst hst' hk
      gi_wp2
      refine ⟨(KeepsOthers.refl _).from _, KeepC.refl _ _ _, ?_, hM'.out, hBW'.out⟩
      intro y hy
      rcases List.mem_append.1 hy with hy | hy
      · exact hall'.out y hy
      · rw [List.mem_singleton.1 hy]; exact hst2.out
    · have hst' : ¬ (look (s.data.toList.drop x.val)).st = 0 := hst
      generalize (look (s.data.toList.drop x.val)).st = sv at hk hst'
      have hsv : ((sv : Int) != 0) = true := by rw [bne_iff_ne]; omega
      have c3 := hk.cell 3
      have hst2 := Lib.hid hst
      clear hst hst' hk
      gi_wp2
      refine ⟨(KeepsOthers.setCell _ _ _).from _, rfl, ⟨x, by simp, hst2.out⟩, by simpa using hM'.out.put 0 (.bool false), hBW'.out.setCell (Nat.le_refl _) _⟩
  case rest =>
    rintro D W hD ⟨hM, hBW⟩ hDn
    have c0 := hM.cell 0
    have hDn' := Lib.hid hDn
    have hBW' := Lib.hid hBW
    clear hM hBW hDn
    go_wp2
    refine ⟨by simp, .inl ⟨_, _, rfl, run_takeDeferred hDn'.out, ?_⟩⟩
    refine ⟨_, results_tmp rfl _ _ _, rfl, hBW'.out.trans (belowK_b (w := w) (Nat.le_refl _) W D _ _ (by omega) hDn'.out rfl rfl)⟩
end Go.Proofs.YtlcfpnegpihicaaGreatDoor

namespace Go.Proofs.YtlcfpnegpihicaaGreatDoor
open Go.RowKit Go.Maps

/-! ## What is said, apart; Of -/
set_option maxRecDepth 100000 in
theorem cloneS_any (s : ByteArray) (w : World) (hs : s.size ≤ 281474976710656) : Calls Tryz.prog 31 #[.string s] w fun e w' => e = .returned (.string s) ∧ Below w.heap.size w w' := by
  have hc := Lib.hid (Tryz.stringslite_Clone s w hs)
  go_enter Tryz.func31, Tryz.ntmps31
  go_wp2_with (go_at_call 46; (with_reducible refine Calls.mono hc.out ?_); rintro e w2 ⟨rfl, hb2⟩)
  go_ret
  exact ⟨rfl, hb2⟩
def fieldV (f : Int × List UInt8 × List UInt8) : Value := .agg #[.int .i64 (f.1 : Int), .string ⟨f.2.1.toArray⟩, .string ⟨f.2.2.toArray⟩]
set_option maxRecDepth 100000 in
theorem apartF_any (k : Nat) (f : Int × List UInt8 × List UInt8) (l : List UInt8) (w : World) (hk : Has w k 191 (undCells f l)) (h1 : f.2.1.length ≤ 1000000) (h2 : f.2.2.length ≤ 1000000) :
    Calls Tryz.prog 104 #[.pointer (some ⟨k, 0, none⟩)] w fun e w' => e = .returned (fieldV f) ∧ Below w.heap.size w w' := by
  obtain ⟨ki, nm, vl⟩ := f
  simp only at h1 h2
  have hb1 : Below w.heap.size w (w.alloc (.cells #[.int .i64 0, .string ⟨#[]⟩, .string ⟨#[]⟩] 104)) := (Below.refl _ _).alloc (Nat.le_refl _) _
  have kR := Has.new w 104 #[.int .i64 0, .string ⟨#[]⟩, .string ⟨#[]⟩]
  obtain ⟨w1, hw1⟩ : ∃ w1, w.alloc (.cells #[.int .i64 0, .string ⟨#[]⟩, .string ⟨#[]⟩] 104) = w1 := ⟨_, rfl⟩
  have z1 : w1.heap.size = w.heap.size + 1 := by rw [← hw1]; simp
  rw [hw1] at hb1 kR
  have hw1' := Lib.hid hw1
  have hk1 := hk.below hb1 hk.lt
  have hkl : k < w.heap.size := hk.lt
  have hall := Lib.hid (fun (W : World) (hb : W.heap[k]? = w1.heap[k]?) => show W.cell? ⟨k, 0, none⟩ = some (.int .i64 (ki : Int)) ∧ W.cell? ⟨k, 1, none⟩ = some (.string ⟨nm.toArray⟩) ∧ W.cell? ⟨k, 2, none⟩ = some (.string ⟨vl.toArray⟩) from by
    have h : Has W k 191 _ := hb.trans hk1
    exact ⟨h.cell 0, h.cell 1, h.cell 2⟩)
  have hc1 := Lib.hid (fun W => cloneS_any ⟨nm.toArray⟩ W (by show nm.toArray.size ≤ _; simp; omega))
  have hc2 := Lib.hid (fun W => cloneS_any ⟨vl.toArray⟩ W (by show vl.toArray.size ≤ _; simp; omega))
  have hb0 := Lib.hid (Below.refl w1.heap.size w1).drew
  have he0 := Lib.hid (show w1.drew.heap[k]? = w1.heap[k]? from rfl)
  have kR' := Lib.hid kR
  have hb1' := Lib.hid hb1
  have z1' := Lib.hid z1
  have hz : w.heap.size < w1.heap.size := by omega
  clear hk hw1 hk1 kR hb1 z1
  go_enter Tryz.func104, Tryz.ntmps104
  go_upto_region 1 with (fail)
  rw [hw1'.out]
  go_region_held3 (fun W => W.cell? ⟨k, 0, none⟩ = some (.int .i64 (ki : Int)) ∧ W.cell? ⟨k, 1, none⟩ = some (.string ⟨nm.toArray⟩) ∧ W.cell? ⟨k, 2, none⟩ = some (.string ⟨vl.toArray⟩))
    (first
    | with_reducible exact hall.out _ he3.out
    | with_reducible exact hall.out _ (he3s.out _ _ _)
    | with_reducible exact hall.out _ he2.out
    | with_reducible exact hall.out _ he0.out
    | fail)
    (first
    | (go_at_call 31; (with_reducible refine Calls.mono (hc1.out _) ?_); rintro e w3 ⟨rfl, hb3⟩; have hb3' := Lib.hid (hb2'.out.trans (hb3.mono hb2'.out.size)); have he3 := Lib.hid (hb3'.out.block k (by omega)); have he3s := Lib.hid (fun (x y z : Value) => (((Below.heap_setCell ((w3.setCell ⟨w.heap.size, 0, none⟩ x).setCell ⟨w.heap.size, 1, none⟩ y) ⟨w.heap.size, 2, none⟩ z k (by show k ≠ w.heap.size; omega)).trans (Below.heap_setCell (w3.setCell ⟨w.heap.size, 0, none⟩ x) ⟨w.heap.size, 1, none⟩ y k (by show k ≠ w.heap.size; omega))).trans (Below.heap_setCell w3 ⟨w.heap.size, 0, none⟩ x k (by show k ≠ w.heap.size; omega))).trans he3.out); have kR3 := kR'.out.below hb3'.out kR'.out.lt; have g0 := kR3.cell 0; have g1 := kR3.cell 1; have g2 := kR3.cell 2; have q0 := kR3.free 0; have q1 := kR3.free 1; have q2 := kR3.free 2; have kR3' := Lib.hid kR3; clear kR3 hb3)
    | (go_at_call 31; (with_reducible refine Calls.mono (hc2.out _) ?_); rintro e w3 ⟨rfl, hb3⟩; have hb3' := Lib.hid (hb2'.out.trans (hb3.mono hb2'.out.size)); have he3 := Lib.hid (hb3'.out.block k (by omega)); have he3s := Lib.hid (fun (x y z : Value) => (((Below.heap_setCell ((w3.setCell ⟨w.heap.size, 0, none⟩ x).setCell ⟨w.heap.size, 1, none⟩ y) ⟨w.heap.size, 2, none⟩ z k (by show k ≠ w.heap.size; omega)).trans (Below.heap_setCell (w3.setCell ⟨w.heap.size, 0, none⟩ x) ⟨w.heap.size, 1, none⟩ y k (by show k ≠ w.heap.size; omega))).trans (Below.heap_setCell w3 ⟨w.heap.size, 0, none⟩ x k (by show k ≠ w.heap.size; omega))).trans he3.out); have kR3 := kR'.out.below hb3'.out kR'.out.lt; have g0 := kR3.cell 0; have g1 := kR3.cell 1; have g2 := kR3.cell 2; have q0 := kR3.free 0; have q1 := kR3.free 1; have q2 := kR3.free 2; have kR3' := Lib.hid kR3; clear kR3 hb3)
    | (go_at_call 31; (with_reducible refine Calls.mono (hc1.out _) ?_); rintro e w2 ⟨rfl, hb2⟩; have hb2' := Lib.hid (hb0.out.trans (hb2.mono hb0.out.size)); have he2 := Lib.hid (hb2'.out.block k (by omega)); clear hb2)
    | (go_at_call 31; (with_reducible refine Calls.mono (hc2.out _) ?_); rintro e w2 ⟨rfl, hb2⟩; have hb2' := Lib.hid (hb0.out.trans (hb2.mono hb0.out.size)); have he2 := Lib.hid (hb2'.out.block k (by omega)); clear hb2)
    | fail)
  all_goals
    go_wp2
    have kf := ((kR3'.out.put 0 (.int .i64 (ki : Int))).put 1 (.string ⟨nm.toArray⟩)).put 2 (.string ⟨vl.toArray⟩)
    have x0 := kf.cell 0
    have x1 := kf.cell 1
    have x2 := kf.cell 2
    refine bodyPost_ret (v := .agg #[.int .i64 (ki : Int), .string ⟨nm.toArray⟩, .string ⟨vl.toArray⟩]) (by simp [results, Tryz.results104, go_sem, x0, x1, x2]) rfl ⟨rfl, ?_⟩
    exact (((hb1'.out.trans (hb3'.out.mono (by omega))).setCell (p := ⟨w.heap.size, 0, none⟩) (Nat.le_refl _) _).setCell (p := ⟨w.heap.size, 1, none⟩) (Nat.le_refl _) _).setCell (p := ⟨w.heap.size, 2, none⟩) (Nat.le_refl _) _
theorem trim_len (l : List UInt8) (p : List UInt8) : (Lib.trimPrefix l p).length ≤ l.length := by
  unfold Lib.trimPrefix
  split
  · simp
  · exact Nat.le_refl _
theorem fieldF_len (l : List UInt8) : (fieldF l).2.1.length ≤ l.length ∧ (fieldF l).2.2.length ≤ l.length := by
  unfold fieldF
  split
  · simp
  · split
    · exact ⟨Nat.zero_le _, trim_len _ _⟩
    · refine ⟨?_, Nat.le_trans (trim_len _ _) ?_⟩
      · unfold Lib.cut; split
        · simp; omega
        · exact Nat.le_refl _
      · unfold Lib.cut; split
        · simp
        · simp
set_option maxRecDepth 100000 in
theorem ofF_any (l : List UInt8) (w : World) (hl : l.length ≤ 1000000) (hN : NamesT w) (hM : MaxT w) : Calls Tryz.prog 83 #[.string ⟨l.toArray⟩] w fun e w' => e = .returned (fieldV (fieldF l)) ∧ Below w.heap.size w w' := by
  have hb1 : Below w.heap.size w ((w.alloc (.cells #[.int .i64 0, .string ⟨#[]⟩, .string ⟨#[]⟩] 104)).alloc (.cells (undCells (0, [], []) l) 191)) := ((Below.refl _ _).alloc (Nat.le_refl _) _).alloc (by simp) _
  have kR := (Has.new w 104 #[.int .i64 0, .string ⟨#[]⟩, .string ⟨#[]⟩]).alloc (.cells (undCells (0, [], []) l) 191)
  have kU := Has.new (w.alloc (.cells #[.int .i64 0, .string ⟨#[]⟩, .string ⟨#[]⟩] 104)) 191 (undCells (0, [], []) l)
  simp only [World.size_alloc] at kU
  obtain ⟨w1, hw1⟩ : ∃ w1, (w.alloc (.cells #[.int .i64 0, .string ⟨#[]⟩, .string ⟨#[]⟩] 104)).alloc (.cells (undCells (0, [], []) l) 191) = w1 := ⟨_, rfl⟩
  have z1 : w1.heap.size = w.heap.size + 1 + 1 := by rw [← hw1]; simp
  rw [hw1] at hb1 kR kU
  have hw1' := Lib.hid hw1
  have n1 := hN.lt
  obtain ⟨mm, hmm⟩ := hM
  have n2 := hmm.lt
  have hrd := Lib.hid (readF_any (w.heap.size + 1) (w.heap.size + 1) l w1 kU hl (Nat.le_refl _) (hN.below hb1) (by omega) ⟨mm, hmm.below hb1 n2⟩ (by omega))
  have kR' := Lib.hid kR
  have hb1' := Lib.hid hb1
  have z1' := Lib.hid z1
  have hlen := fieldF_len l
  obtain ⟨f, hf⟩ : ∃ f, fieldF l = f := ⟨_, rfl⟩
  rw [hf] at hlen ⊢
  have hf' := Lib.hid hf
  clear hw1 hb1 kR kU z1 hN hmm hf
  obtain ⟨ki, nm, vl⟩ := f
  go_enter Tryz.func83, Tryz.ntmps83
  go_upto_region 2 with (fail)
  rw [show (w.alloc (.cells #[.int .i64 0, .string ⟨#[]⟩, .string ⟨#[]⟩] 104)).alloc (.cells #[.int .i64 0, .string ⟨#[]⟩, .string ⟨#[]⟩, .string ⟨l.toArray⟩] 191) = w1 from hw1'.out]
  go_wp2_with (first
    | (go_at_call 103; (with_reducible refine Calls.mono hrd.out ?_); rintro e w2 ⟨rfl, hk2, hb2⟩; rw [hf'.out] at hk2; have hap := Lib.hid (apartF_any (w.heap.size + 1) _ l w2 hk2 (by simp only; omega) (by simp only; omega)); have hb2' := Lib.hid hb2; clear hk2 hb2)
    | (go_at_call 104; (with_reducible refine Calls.mono hap.out ?_); rintro e w3 ⟨rfl, hb3⟩; have hb3' := Lib.hid hb3; have kR2 := hb2'.out.block w.heap.size (by omega); have kR2 : Has w2 w.heap.size _ _ := kR2.trans kR'.out; have kR3 := kR2.below hb3 kR2.lt; have g0 := kR3.cell 0; have g1 := kR3.cell 1; have g2 := kR3.cell 2; have q0 := kR3.free 0; have q1 := kR3.free 1; have q2 := kR3.free 2; have kR3' := Lib.hid kR3; clear kR3 kR2 hb3; unfold fieldV))
  have kf := ((kR3'.out.put 0 (.int .i64 (ki : Int))).put 1 (.string ⟨nm.toArray⟩)).put 2 (.string ⟨vl.toArray⟩)
  have x0 := kf.cell 0
  have x1 := kf.cell 1
  have x2 := kf.cell 2
  refine bodyPost_ret (v := .agg #[.int .i64 (ki : Int), .string ⟨nm.toArray⟩, .string ⟨vl.toArray⟩]) (by simp [results, Tryz.results83, go_sem, x0, x1, x2]) rfl ⟨rfl, ?_⟩
  have z1 := z1'.out
  have z2 := hb2'.out.size
  exact (((hb1'.out.trans ((hb2'.out.mono (by omega)).trans (hb3'.out.mono (by omega)))).setCell (p := ⟨w.heap.size, 0, none⟩) (Nat.le_refl _) _).setCell (p := ⟨w.heap.size, 1, none⟩) (Nat.le_refl _) _).setCell (p := ⟨w.heap.size, 2, none⟩) (Nat.le_refl _) _
end Go.Proofs.YtlcfpnegpihicaaGreatDoor
