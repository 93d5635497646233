import Derived.Test.YtlbiniibkbhghaaGreatDoorPk19
import Derived.Laws.AppendOwn
namespace Go.Proofs.YtlbiniibkbhghaaGreatDoor
open Go.RowKit

/-! ## Points that are told, where their bytes begin: a list of them -/
def onesC (l : List (Nat × Nat)) : List Value := l.flatMap fun x => [.int .i64 (x.1 : Int), .int .i64 (x.2 : Int)]
theorem onesC_length (l : List (Nat × Nat)) : (onesC l).length = l.length * 2 := by
  induction l with
  | nil => rfl
  | cons x l ih => simp only [onesC, List.flatMap_cons, List.length_append, List.length_cons, List.length_nil] at ih ⊢; omega
theorem onesC_append (l m : List (Nat × Nat)) : onesC (l ++ m) = onesC l ++ onesC m := by simp [onesC]
theorem onesC_get : ∀ (l : List (Nat × Nat)) (i : Nat) (x : Nat × Nat), l[i]? = some x → (onesC l)[i * 2]? = some (.int .i64 (x.1 : Int)) ∧ (onesC l)[i * 2 + 1]? = some (.int .i64 (x.2 : Int))
  | [], i, x, h => by simp at h
  | y :: l, 0, x, h => by
    obtain rfl : y = x := by simpa using h
    exact ⟨rfl, rfl⟩
  | y :: l, i + 1, x, h => by
    have := onesC_get l i x (by simpa using h)
    show ((.int .i64 (y.1 : Int)) :: (.int .i64 (y.2 : Int)) :: onesC l)[(i + 1) * 2]? = _ ∧ ((.int .i64 (y.1 : Int)) :: (.int .i64 (y.2 : Int)) :: onesC l)[(i + 1) * 2 + 1]? = _
    rw [show (i + 1) * 2 = i * 2 + 1 + 1 from by omega, List.getElem?_cons_succ, List.getElem?_cons_succ, List.getElem?_cons_succ, List.getElem?_cons_succ]
    exact this
theorem onesC_one (l : List (Nat × Nat)) : ∀ u ∈ onesC l, u.oneCell' = true := by
  intro u hu
  obtain ⟨x, _, hu⟩ := List.mem_flatMap.1 hu
  rcases List.mem_cons.1 hu with rfl | hu
  · rfl
  · obtain rfl := List.mem_singleton.1 hu
    rfl
def Ones (W : World) (n0 : Nat) (v : Value) (l : List (Nat × Nat)) : Prop := W.ownsRow n0 121 2 v l.length (onesC l)
theorem ones_nil (W : World) (n0 : Nat) : Ones W n0 (.slice none 0 0) [] := ⟨rfl, .inl ⟨rfl, rfl⟩⟩
/-- Where such a list lies: block g (of none: nowhere). -/
def OnesIn (W : World) (n0 : Nat) (A : Option Addr) (l : List (Nat × Nat)) : Prop := 0 < l.length → ∃ g, A = some ⟨g, 0, none⟩ ∧ n0 ≤ g ∧ g < W.heap.size ∧ ∀ i x, l[i]? = some x → W.cell? ⟨g, i * 2, none⟩ = some (.int .i64 (x.1 : Int)) ∧ W.cell? ⟨g, i * 2 + 1, none⟩ = some (.int .i64 (x.2 : Int))
section
variable {W W' : World} {n0 : Nat} {v : Value} {l : List (Nat × Nat)}
theorem Ones.shape (h : Ones W n0 v l) : ∃ A c, v = .slice A l.length c ∧ OnesIn W n0 A l := by
  have hh := h
  rcases h.2 with ⟨rfl, h0⟩ | ⟨g, cap, cur, rfl, hb, hg, _⟩
  · exact ⟨none, 0, by rw [h0], fun hl => by omega⟩
  · refine ⟨_, cap, rfl, fun _ => ⟨g, rfl, hb, (Array.getElem?_eq_some_iff.1 hg).1, fun i x hx => ?_⟩⟩
    have c := fun j u hu => World.ownsRow.cells (g := g) hh rfl j u hu
    simp only [add_zero_, Nat.zero_add] at c
    exact ⟨c _ _ (onesC_get l i x hx).1, c _ _ (onesC_get l i x hx).2⟩
theorem Ones.own (h : Ones W n0 v l) : ∀ g, v.ownBlock = some g → n0 ≤ g ∧ g < W.heap.size := by
  intro g hg
  rcases h.2 with ⟨rfl, _⟩ | ⟨g', cap, cur, rfl, hb, hh, r⟩
  · cases hg
  · obtain rfl : g' = g := by simpa [Value.ownBlock] using hg
    exact ⟨hb, (Array.getElem?_eq_some_iff.1 hh).1⟩
theorem Ones.kept (h : Ones W n0 v l) (k : ∀ g, v.ownBlock = some g → W'.heap[g]? = W.heap[g]?) : Ones W' n0 v l := by
  refine ⟨h.1, ?_⟩
  rcases h.2 with h | ⟨g, cap, cur, rfl, hb, hg, r⟩
  · exact .inl h
  · exact .inr ⟨g, cap, cur, rfl, hb, (k g rfl).trans hg, r⟩
theorem Ones.below (h : Ones W n0 v l) (hb : Below W.heap.size W W') : Ones W' n0 v l := h.kept fun g hg => hb.block g (h.own g hg).2
theorem OnesIn.below {A : Option Addr} (h : OnesIn W n0 A l) (hb : Below W.heap.size W W') : OnesIn W' n0 A l := fun hl => by
  obtain ⟨g, rfl, h1, h2, h3⟩ := h hl
  refine ⟨g, rfl, h1, Nat.lt_of_lt_of_le h2 hb.size, fun i x hx => ?_⟩
  exact ⟨(hb.cell (p := ⟨g, i * 2, none⟩) h2).trans (h3 i x hx).1, (hb.cell (p := ⟨g, i * 2 + 1, none⟩) h2).trans (h3 i x hx).2⟩
end
theorem infoOne : (Tryz.prog.info? 121).map (fun i => (i.zero, i.size, i.bytes)) = some (some (.agg #[.int .i64 0, .int .i64 0]), 2, 16) := by kernel_rfl
section
variable {w : World} {ops : Array Oper} {rest : List Oper} {o : Oper} {a : Act} {Q : Exit → Act → World → Prop} {n0 : Nat} {v : Value} {l : List (Nat × Nat)}
theorem wpList_append_one (hgd : o.guard = none) (s x : Operand) (ho : o.op = .call { callee := .builtin .append, args := #[s, x], argTypes := #[117, 117] }) (hsv : a.eval s = v) (hv : Ones w n0 v l)
    (k : Nat) (p q : Nat) (hxv : a.eval x = .slice (some ⟨k, 0, none⟩) 1 1) (hx : Has w k 121 #[.int .i64 (p : Int), .int .i64 (q : Int)]) (hs : l.length + 1 ≤ 1099511627776) (hn : n0 ≤ w.heap.size)
    (h : ∀ v' w', Ones w' n0 v' (l ++ [(p, q)]) → w.grownBy w' v.ownBlock → wpList Tryz.prog ops Q rest (a.put o.dst v') w') : wpList Tryz.prog ops Q (o :: rest) a w := by
  obtain ⟨i, hi, hz, hz1, hz2⟩ := info_parts infoOne
  refine wpList_append_own w hgd s x 117 ho n0 121 i _ 2 16 Tryz.underlying117 hi hz hz1 hz2 rfl (by decide) v l.length (onesC l) hsv hv ⟨k, 0, none⟩ 1 1 (onesC [(p, q)]) hxv rfl (fun j u hu => ?_) (onesC_one _) (by simp only [maxLen]; omega) (by omega) hn (fun v' w' h1 h2 _ => h v' w' ?_ h2)
  · rw [add_zero_, Nat.zero_add, hx.cell]
    simpa [onesC] using hu
  · unfold Ones
    rw [List.length_append, List.length_singleton, onesC_append]
    exact h1
end

/-! ## All -/
def ptsOf (x : List UInt8) (ps : List Nat) : List (Nat × Nat) := ps.map fun p => (p, (lookAt x p).point)
def AllOf (x : List UInt8) (w : World) (e : Ending) (w' : World) : Prop := ∃ v, e = .returned v ∧ Ones w' w.heap.size v (ptsOf x (placesFrom x 0)) ∧ Below w.heap.size w w'
theorem placesF_len (l : List UInt8) : ∀ (f p : Nat), (placesF l f p).length ≤ f
  | 0, _ => Nat.le_refl _
  | f + 1, p => by
    unfold placesF
    split
    · have := placesF_len l f (p + (lookAt l p).size)
      simp only [List.length_cons]; omega
    · simp
theorem places_len (l : List UInt8) (p : Nat) : (placesFrom l p).length ≤ l.length - p := placesF_len l _ p
theorem partP_len {x : List UInt8} {pre : List Nat} {p : Nat} (h : pre ++ placesFrom x p = placesFrom x 0) : pre.length + (placesFrom x p).length ≤ x.length := by
  have := congrArg List.length h
  rw [List.length_append] at this
  have := places_len x 0
  omega
theorem partP_next {x : List UInt8} {pre : List Nat} {p : Nat} (h : pre ++ placesFrom x p = placesFrom x 0) (hp : p < x.length) : (pre ++ [p]) ++ placesFrom x (p + (lookAt x p).size) = placesFrom x 0 := by
  rw [← h, places_step hp]; simp
theorem first_drop (ad : Addr) (x : List UInt8) (p n c : Nat) {w W : World} (h : Rd w (· < w.heap.size) (some ad) x) (hb : Below w.heap.size w W) (hn : n = x.length) (hp : p < n) (hc : n ≤ c) (hc' : c ≤ 9223372036854775807) :
    Calls Tryz.prog 92 #[.slice (some (ad.add p)) (n - p) (c - p)] W (FirstOf (x.drop p) W) := by
  have hr := ((h.kept (Kept.below hb (fun _ h => h))).mono (S' := (· < W.heap.size)) (fun b hb' => by have hb' : b < w.heap.size := hb'; have := hb.size; show b < W.heap.size; omega)).drop p c (by omega)
  rw [if_neg (by omega)] at hr
  exact first_any (ad.add p) (x.drop p) (n - p) (c - p) W hr (by rw [List.length_drop, hn]) (by rw [List.length_drop]; omega) (by omega) (by omega)
set_option maxRecDepth 100000 in
set_option maxHeartbeats 2000000 in
theorem all_anyU (A : Option Addr) (x : List UInt8) (n c : Nat) (w : World) (h : Rd w (· < w.heap.size) A x) (hn : n = x.length) (hc : n ≤ c) (hc' : c ≤ 9223372036854775807) (hl : n ≤ 1099511627) :
    Calls Tryz.prog 76 #[.slice A n c] w (AllOf x w) := by
  have h' := Lib.hid h
  have hn' := Lib.hid hn
  clear h hn
  go_enter Tryz.func76, Tryz.ntmps76
  go_wp2
  go_loopw [3, 4] (fun v i W => ∃ (p : Nat) (pre : List Nat), i = .int .i64 (p : Int) ∧ p ≤ n ∧ pre ++ placesFrom x p = placesFrom x 0 ∧ Ones W w.heap.size v (ptsOf x pre) ∧ Below w.heap.size w W) (fun _ i _ => n - (intOf i).toNat)
  case atStart => exact ⟨0, [], rfl, by omega, rfl, ones_nil _ _, Below.refl _ _⟩
  case round =>
    obtain ⟨p, pre, rfl, hp, hpre, hv, hb⟩ := hrel
    have hpre' := Lib.hid hpre
    have hv' := Lib.hid hv
    have hb' := Lib.hid hb
    by_cases hlt : p < n
    · obtain ⟨ad, had, _⟩ := h'.out (by have := hn'.out; omega)
      subst had
      have hf := first_drop ad x p n c h'.out hb hn'.out hlt hc hc'
      have hla := lookAt_le (l := x) (p := p) (by have := hn'.out; omega)
      have hpl := partP_len hpre
      have hpc : (p : Int) < (c : Int) := by omega
      have hpi : (p : Int) < (n : Int) := by omega
      have hnx := Lib.hid (partP_next hpre (by have := hn'.out; omega))
      have hpts : ptsOf x (pre ++ [p]) = ptsOf x pre ++ [(p, (lookAt x p).point)] := by simp [ptsOf]
      have hpts' := Lib.hid hpts
      have hll : (ptsOf x pre).length = pre.length := by simp [ptsOf]
      have hlen : Hid ((ptsOf x pre).length + 1 ≤ 1099511627776) := Lib.hid (by have := hn'.out; omega)
      unfold FirstOf at hf
      have hlk : look (x.drop p) = lookAt x p := rfl
      rw [hlk] at hf
      generalize (lookAt x p).point = pt at hf hpts'
      generalize (lookAt x p).size = sz at hf hla hnx
      generalize decide ((lookAt x p).st ≠ 2) = bo at hf
      have hf' := Lib.hid hf
      have hsz : p + sz ≤ n := by have := hn'.out; omega
      have hsz1 := hla.2
      have hnb := hb.size
      clear hf hpre hv hb hla hpl hpts hlk hll
      go_wp2_with (first
        | (go_at_call 92; refine hf'.out.mono ?_; rintro e w2 ⟨rfl, hb2⟩; have hb2' := Lib.hid hb2; have hv2 := Lib.hid (hv'.out.below hb2); have hnew := Lib.hid (Has.new w2 121 #[.int .i64 (p : Int), .int .i64 (pt : Int)]); clear hb2)
        | (at_builtin; refine wpList_append_one rfl _ _ rfl rfl (hv2.out.below ((Below.refl _ _).alloc (Nat.le_refl _) _)) _ p pt rfl hnew.out hlen.out (by have := hb'.out.size; have := hb2'.out.size; simp; omega) ?_; intro v3 w3 hv3 hg3; have hv3' := Lib.hid hv3; have hg3' := Lib.hid hg3; clear hv3 hg3))
      refine ⟨⟨p + sz, pre ++ [p], by go_num, hsz, hnx.out, by rw [hpts'.out]; exact hv3'.out, ?_⟩, by simp [intOf]; omega⟩
      exact ((hb'.out.trans (hb2'.out.mono hnb)).alloc (by have := hb2'.out.size; omega) _).grown hg3'.out (by have := hb2'.out.size; simp; omega) (fun g e => (hv2.out.own g e).1)
    · obtain rfl : p = n := by omega
      clear hb hv hpre
      go_wp2
      go_ret
      refine ⟨_, rfl, ?_, hb'.out⟩
      have := hpre'.out
      rw [places_end (by have := hn'.out; omega), List.append_nil] at this
      rw [← this]
      exact hv'.out
end Go.Proofs.YtlbiniibkbhghaaGreatDoor
