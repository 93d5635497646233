import Derived.Test.YtjbcckmbpdahaaaDoorH
import Derived.Test.YtjbcckmbpdahaaaDoorR
import Derived.KernelRfl
import Derived.ScopeJumps
import Derived.WalkMore
import Derived.Laws.EntriesVeiled
import Derived.BigQuiet
import Derived.BigRegionIn
import Derived.Deep.QuietTactic
import Derived.Outline
namespace Go.Proofs.YtjbcckmbpdahaaaDoor
open Go.RowKit Go.Shelf
attribute [local go_sem] Oper.semAt_some
attribute [local go_sem] wide_fn wide_depth wide_round

/-! ## The law of digits, one by one -/
theorem len_over {x K k : Nat} (h : IsLen 10 x K) (hk : k = 0 ∨ x / 10 ^ k ≠ 0) : k < K := by
  rcases Nat.lt_or_ge k K with h' | h'
  · exact h'
  · exfalso
    have h1 := h.1
    have h2 := h.2.1
    rcases hk with rfl | hk
    · omega
    · apply hk
      rw [Nat.div_eq_zero_iff] at h2 ⊢
      have : 0 < 10 ^ K := Nat.pow_pos (by omega)
      have : 10 ^ K ≤ 10 ^ k := Nat.pow_le_pow_right (by omega) h'
      omega
/-- A text that tells a number's digits from its end on. -/
def Digs (x : Nat) (s : ByteArray) : Prop := IsLen 10 x s.size ∧ ∀ k, k < s.size → ∀ (j : Nat) (hj : j < s.size), j + 1 + k = s.size → (s[j]'hj).toNat = 48 + digAt 10 x k
theorem digs_txt {x K : Nat} (h : IsLen 10 x K) : Digs x ⟨(txt 10 x K).toArray⟩ := by
  have hz : (⟨(txt 10 x K).toArray⟩ : ByteArray).size = K := by show (txt 10 x K).toArray.size = K; simp [txt_length]
  refine ⟨by rw [hz]; exact h, fun k hk j hj he => ?_⟩
  have hl : (txt 10 x K).length = K := txt_length _ _ _
  rw [hz] at hk he
  show ((txt 10 x K).toArray[j]'_).toNat = _
  have hd : digAt 10 x k < 10 := Nat.mod_lt _ (by omega)
  have e : (txt 10 x K)[j]'(by omega) = sgn (digAt 10 x k) := by
    simp only [txt, List.getElem_reverse, upto_length]
    simp only [upto, List.getElem_map, List.getElem_range]
    rw [show K - 1 - j = k from by omega]
  rw [List.getElem_toArray, e, sgn, if_pos hd]
  show (48 + digAt 10 x k) % 256 = _
  omega
/-- What goes on, round by round. -/
def Fit (x : Nat) (pre : List (Nat × Fin 16)) : Prop := pre = upto (tell 10 x) pre.length
theorem fit_snoc {x : Nat} {pre : List (Nat × Fin 16)} {y : Nat × Fin 16} (h : Fit x pre) (h1 : y.1 = pre.length) (h2 : y.2.val = digAt 10 x pre.length) : Fit x (pre ++ [y]) := by
  unfold Fit at *
  have hd : digAt 10 x pre.length < 10 := Nat.mod_lt _ (by omega)
  have : y = tell 10 x pre.length := Prod.ext h1 (Fin.ext (by show y.2.val = digAt 10 x pre.length % 16; omega))
  rw [List.length_append, List.length_singleton, upto_succ, ← this]
  exact congrArg (· ++ [y]) h
theorem fit_upto (x k : Nat) : Fit x (upto (tell 10 x) k) := by unfold Fit; rw [upto_length]
theorem fit_last {x : Nat} {pre : List (Nat × Fin 16)} {y : Nat × Fin 16} (h : Fit x (pre ++ [y])) : y = tell 10 x pre.length := by
  unfold Fit at h
  rw [List.length_append, List.length_singleton, upto_succ] at h
  exact (List.append_inj' h rfl).2 |> fun e => by simpa using e

/-- What lies while the digits are gone over. -/
def EachM (w : World) (x : Nat) (m : Int) (s : ByteArray) (T k : Nat) (t : Int) (ds : List Nat) (n : Int) (W : World) : Prop :=
  Has W w.heap.size 3 #[.int .i64 m] ∧ Has W (w.heap.size + 1) 4 #[.bool false] ∧ Has W (w.heap.size + 1 + 1) 9 #[.string s] ∧
  Has W (w.heap.size + 1 + 1 + 1) 22 #[.int .u64 x] ∧ Has W (w.heap.size + 1 + 1 + 1 + 1) 22 #[.int .u64 10] ∧
  Has W T 3 #[.int .i64 t] ∧ Has W k 3 #[.int .i64 n] ∧ (∀ D ∈ ds, NoCalls W D) ∧ Below w.heap.size w W
theorem eachM_from {β : Type} (w : World) (x : Nat) (m : Int) (s : ByteArray) (T k : Nat) (t : Int) (ds : List Nat) (f : β → Int) (B : Nat) (hB : w.heap.size + 1 + 1 + 1 + 1 < B) (hT : T < B) (hk : k < B) (hds : ∀ D ∈ ds, D < B) : OwnFrom B (fun b W => EachM w x m s T k t ds (f b) W) :=
  OwnFrom.and (has_from (by omega) _ (fun _ => #[.int .i64 m])) (OwnFrom.and (has_from (by omega) _ (fun _ => #[.bool false])) (OwnFrom.and (has_from (by omega) _ (fun _ => #[.string s])) (OwnFrom.and (has_from (by omega) _ (fun _ => #[.int .u64 x])) (OwnFrom.and (has_from (by omega) _ (fun _ => #[.int .u64 10])) (OwnFrom.and (has_from hT _ (fun _ => #[.int .i64 t])) (OwnFrom.and (has_from hk _ (fun b => #[.int .i64 (f b)])) (OwnFrom.and (fun s X Y row hs hg hr D hD => NoCalls.from (hds D hD) s X Y row (hs D hD) hg hr) (ownFrom_below (Nat.le_refl _) (by omega)))))))))
/-- The counter is set. -/
theorem EachM.count {w W : World} {x : Nat} {m : Int} {s : ByteArray} {T k : Nat} {t : Int} {ds : List Nat} {n : Int} (h : EachM w x m s T k t ds n W) (hk : w.heap.size + 1 + 1 + 1 + 1 < k) (hTk : T ≠ k) (n' : Int) :
    EachM w x m s T k t ds n' (W.setCell ⟨k, 0, none⟩ (.int .i64 n')) := by
  obtain ⟨h0, h1, h2, h3, h4, h5, h6, h7, h8⟩ := h
  exact ⟨h0.other (by omega) _, h1.other (by omega) _, h2.other (by omega) _, h3.other (by omega) _, h4.other (by omega) _, h5.other hTk _, h6.put 0 _, fun D hD => (h7 D hD).set h6 _, h8.setCell (by simp; omega) _⟩
def EachI (w : World) (x : Nat) (m : Int) (s : ByteArray) (T k : Nat) (t : Int) (ds : List Nat) (pre : List (Nat × Fin 16)) (W : World) : Prop :=
  (Fit x pre ∧ pre.length ≤ s.size ∧ (t = 0 → pre.length = 0 ∨ (pre.length : Int) < m)) ∧ EachM w x m s T k t ds pre.length W
def EachX (w : World) (x : Nat) (m : Int) (s : ByteArray) (T k : Nat) (t : Int) (ds : List Nat) (c : Code) (pre : List (Nat × Fin 16)) (W : World) : Prop :=
  (c = .ret ∧ ¬ (Fit x pre ∧ pre.length ≤ s.size)) ∨ (c = .exit 2 ∧ t = 0 ∧ Fit x pre ∧ pre.length ≤ s.size ∧ m ≤ (pre.length : Int) ∧ (pre.length = 1 ∨ (pre.length : Int) - 1 < m) ∧ EachM w x m s T k t ds pre.length W)
def eachCount (m : Int) (s : ByteArray) (t : Int) : Int := if t = 0 then min (s.size : Int) (max 1 m) else s.size
theorem eachI_from (w : World) (x : Nat) (m : Int) (s : ByteArray) (T k : Nat) (t : Int) (ds : List Nat) (B : Nat) (hB : w.heap.size + 1 + 1 + 1 + 1 < B) (hT : T < B) (hk : k < B) (hds : ∀ D ∈ ds, D < B) : OwnFrom B (EachI w x m s T k t ds) := fun b W W' row hs hg hr =>
  ⟨hs.1, eachM_from w x m s T k t ds (fun b : List (Nat × Fin 16) => (b.length : Int)) B hB hT hk hds b W W' row hs.2 hg hr⟩
theorem eachX_from (w : World) (x : Nat) (m : Int) (s : ByteArray) (T k : Nat) (t : Int) (ds : List Nat) (B : Nat) (hB : w.heap.size + 1 + 1 + 1 + 1 < B) (hT : T < B) (hk : k < B) (hds : ∀ D ∈ ds, D < B) (c : Code) : OwnFrom B (EachX w x m s T k t ds c) := fun b W W' row hs hg hr => by
  rcases hs with hs | ⟨h1, h2, h3, h4, h5, h6, h7⟩
  · exact .inl hs
  · exact .inr ⟨h1, h2, h3, h4, h5, h6, eachM_from w x m s T k t ds (fun b : List (Nat × Fin 16) => (b.length : Int)) B hB hT hk hds b W W' row h7 hg hr⟩
theorem each_all {w W : World} {x : Nat} {m : Int} {s : ByteArray} {T k : Nat} {t : Int} {ds : List Nat} (hD : Digs x s) {xs : List (Nat × Fin 16)} (h : ∃ K, IsLen 10 x K ∧ xs = upto (tell 10 x) K) (hI : EachI w x m s T k t ds xs W) :
    EachM w x m s T k t ds (eachCount m s t) W := by
  obtain ⟨K, hK, rfl⟩ := h
  obtain ⟨⟨_, _, hc⟩, hM⟩ := hI
  have hKs := isLen_one (by omega) hK hD.1
  rw [upto_length] at hM hc
  have : (K : Int) = eachCount m s t := by
    unfold eachCount
    split
    · rename_i ht
      have := hc ht
      have := hK.1
      omega
    · omega
  rw [← this]; exact hM
theorem each_left {w W : World} {x : Nat} {m : Int} {s : ByteArray} {T k : Nat} {t : Int} {ds : List Nat} (hD : Digs x s) {c : Code} {pre : List (Nat × Fin 16)} (h : ∃ k, (k = 0 ∨ x / 10 ^ k ≠ 0) ∧ pre = upto (tell 10 x) (k + 1)) (hI : EachX w x m s T k t ds c pre W) :
    c = .exit 2 ∧ EachM w x m s T k t ds (eachCount m s t) W := by
  obtain ⟨j, hj, rfl⟩ := h
  have hlt := len_over hD.1 hj
  rcases hI with ⟨_, hn⟩ | ⟨rfl, rfl, _, hle, h1, h2, hM⟩
  · exact absurd ⟨fit_upto _ _, by rw [upto_length]; omega⟩ hn
  · refine ⟨rfl, ?_⟩
    rw [upto_length] at hM hle h1 h2
    have : ((j + 1 : Nat) : Int) = eachCount m s 0 := by unfold eachCount; simp; omega
    rw [← this]; exact hM
/-- The sign fits: the round goes on. -/
theorem each_hit {x : Nat} {s : ByteArray} (hD : Digs x s) {pre : List (Nat × Fin 16)} {y : Nat × Fin 16} (hf : Fit x pre) (h1 : (y.1 : Int) = (pre.length : Int)) (h2 : pre.length < s.size) (h3 : s.size - 1 - pre.length < s.size)
    (h4 : ((s[s.size - 1 - pre.length].toNat : Int) != 48 + (y.2.val : Int)) = false) : Fit x (pre ++ [y]) := by
  have := hD.2 pre.length h2 (s.size - 1 - pre.length) h3 (by omega)
  rw [bne_eq_false_iff_eq] at h4
  exact fit_snoc hf (by omega) (by omega)
theorem each_miss {x : Nat} {s : ByteArray} (hD : Digs x s) {pre : List (Nat × Fin 16)} {y : Nat × Fin 16} (h2 : pre.length < s.size) (h3 : s.size - 1 - pre.length < s.size)
    (h4 : ((s[s.size - 1 - pre.length].toNat : Int) != 48 + (y.2.val : Int)) = true) : ¬ (Fit x (pre ++ [y]) ∧ (pre ++ [y]).length ≤ s.size) := by
  rintro ⟨hf, _⟩
  have := hD.2 pre.length h2 (s.size - 1 - pre.length) h3 (by omega)
  have hy := fit_last hf
  have hd : digAt 10 x pre.length < 10 := Nat.mod_lt _ (by omega)
  have : y.2.val = digAt 10 x pre.length := by rw [hy]; show digAt 10 x pre.length % 16 = _; omega
  rw [bne_iff_ne] at h4
  omega
theorem each_nine {x : Nat} {pre : List (Nat × Fin 16)} {y : Nat × Fin 16} (h : (9 : Int) < (y.2.val : Int)) : ¬ Fit x (pre ++ [y]) := fun hf => by
  have hy := fit_last hf
  have hd : digAt 10 x pre.length < 10 := Nat.mod_lt _ (by omega)
  have : y.2.val = digAt 10 x pre.length := by rw [hy]; show digAt 10 x pre.length % 16 = _; omega
  omega
theorem each_place {x : Nat} {pre : List (Nat × Fin 16)} {y : Nat × Fin 16} (h : ¬ (y.1 : Int) = (pre.length : Int)) : ¬ Fit x (pre ++ [y]) := fun hf => by
  apply h; rw [fit_last hf]; rfl

set_option maxHeartbeats 400000 in
theorem eachCall_any (x : Int) (w : World) (hT : Tab w) :
    Calls Tryd.prog 34 #[.int .u64 x] w fun e w' => e = .returned (.func (.func 67) #[] #[.pointer (some ⟨w.heap.size, 0, none⟩), .pointer (some ⟨w.heap.size + 1, 0, none⟩)]) ∧ w' = (w.alloc (.cells #[.int .u64 x] 22)).alloc (.cells #[.int .u64 10] 22) := by
  obtain ⟨t0, t1⟩ := hT
  go_enter Tryd.func34, Tryd.ntmps34
  go_wp2_with (go_at_call 52; refine (callsIn_wide.1 (digits_in 3 _ _ _)).mono ?_; rintro e w' ⟨rfl, rfl⟩)
  go_ret
  exact ⟨rfl, rfl⟩

set_option maxRecDepth 100000 in
set_option maxHeartbeats 2000000 in
theorem lawEach (x : Nat) (m : Int) (hx : x < 18446744073709551616) (w : World) (hT : Tab w) :
    Calls Tryd.prog 6 #[.int .u64 x, .int .i64 m] w fun e w' => e = .returned (.bool true) ∧ Below w.heap.size w w' := by
  refine (callsIn_wide (n := 3)).1 ?_
  refine callsIn_of_wp_marks Tryd.func6 rfl trivial ?_ rfl
  simp only [Tryd.ntmps6, List.size_toArray, List.length_cons, List.length_nil, Nat.reduceAdd, Nat.reduceSub, Array.replicate_succ, Array.replicate_zero, List.push_toArray, List.append_toArray, List.nil_append, List.cons_append]
  gi_wp2_with fail
  refine (callsIn_wide.2 (refText_any x hx _)).mono ?_
  rintro e w1 ⟨⟨K, hK, rfl⟩, rfl⟩
  have hD0 := Lib.hid (digs_txt hK)
  have hs40 : (⟨(txt 10 x K).toArray⟩ : ByteArray).size ≤ 20 := (isLen_le (.inl rfl) hx hD0.out.1).2
  clear hK
  generalize (⟨(txt 10 x K).toArray⟩ : ByteArray) = s at hD0 hs40 ⊢
  gi_wp2_with fail
  have hB0 : Below w.heap.size w (((w.alloc (.cells #[.int .i64 m] 3)).alloc (.cells #[.bool false] 4)).alloc (.cells #[.string s] 9)) :=
    ((((Below.refl _ _).alloc (Nat.le_refl _) _).alloc (by simp) _).alloc (by simp; omega) _)
  have hT1 : Tab (((w.alloc (.cells #[.int .i64 m] 3)).alloc (.cells #[.bool false] 4)).alloc (.cells #[.string s] 9)) := hT.below hB0
  have k0 := ((Has.new w 3 #[.int .i64 m]).alloc (.cells #[.bool false] 4)).alloc (.cells #[.string s] 9)
  have k1 := (Has.new (w.alloc (.cells #[.int .i64 m] 3)) 4 #[.bool false]).alloc (.cells #[.string s] 9)
  have k2 := Has.new ((w.alloc (.cells #[.int .i64 m] 3)).alloc (.cells #[.bool false] 4)) 9 #[.string s]
  simp only [World.size_alloc] at k1 k2
  obtain ⟨w0, hw0⟩ : ∃ w0, ((w.alloc (.cells #[.int .i64 m] 3)).alloc (.cells #[.bool false] 4)).alloc (.cells #[.string s] 9) = w0 := ⟨_, rfl⟩
  have z0 : w0.heap.size = w.heap.size + 1 + 1 + 1 := by rw [← hw0]; simp
  rw [hw0] at k0 k1 k2 hB0 hT1 ⊢
  clear hw0
  refine (callsIn_wide.2 (eachCall_any x _ hT1)).mono ?_
  rintro e w1 ⟨rfl, rfl⟩
  rw [z0]
  have c0 := (k0.alloc (.cells #[.int .u64 x] 22)).alloc (.cells #[.int .u64 10] 22)
  have c1 := (k1.alloc (.cells #[.int .u64 x] 22)).alloc (.cells #[.int .u64 10] 22)
  have c2 := (k2.alloc (.cells #[.int .u64 x] 22)).alloc (.cells #[.int .u64 10] 22)
  have c3 := (Has.new w0 22 #[.int .u64 x]).alloc (.cells #[.int .u64 10] 22)
  have c4 := Has.new (w0.alloc (.cells #[.int .u64 x] 22)) 22 #[.int .u64 10]
  simp only [World.size_alloc, z0] at c3 c4
  have hB1 : Below w.heap.size w ((w0.alloc (.cells #[.int .u64 x] 22)).alloc (.cells #[.int .u64 10] 22)) := (hB0.alloc (by omega) _).alloc (by simp only [World.size_alloc]; omega) _
  obtain ⟨w1, hw1⟩ : ∃ w1, (w0.alloc (.cells #[.int .u64 x] 22)).alloc (.cells #[.int .u64 10] 22) = w1 := ⟨_, rfl⟩
  have z1 : w1.heap.size = w.heap.size + 1 + 1 + 1 + 1 + 1 := by rw [← hw1]; simp [z0]
  rw [hw1] at c0 c1 c2 c3 c4 hB1 ⊢
  clear hw1 k0 k1 k2 hB0 hT1 z0
  have hnil : ∀ (fn : Fn) (f c : Array Value) (w : World), Sem.run Tryd.prog (binOp BinOp.eql 44 (Value.func fn f c) Value.nilFunc) w = .ok (.bool false) w := fun _ _ _ _ => by kernel_rfl
  gi_wp2
  refine wpIn_loop_rounds 3 ?_
  rw [roundsIn_succ]
  have z1' := Lib.hid z1
  have q5 := (Has.new w1 3 #[.int .i64 0]).alloc (.cells #[.int .i64 0] 3)
  have q6 := Has.new (w1.alloc (.cells #[.int .i64 0] 3)) 3 #[.int .i64 0]
  simp only [World.size_alloc, z1] at q5 q6
  have hM : EachM w x m s (w.heap.size + 1 + 1 + 1 + 1 + 1) (w.heap.size + 1 + 1 + 1 + 1 + 1 + 1) 0 [] 0 ((w1.alloc (.cells #[.int .i64 0] 3)).alloc (.cells #[.int .i64 0] 3)) :=
    ⟨(c0.alloc _).alloc _, (c1.alloc _).alloc _, (c2.alloc _).alloc _, (c3.alloc _).alloc _, (c4.alloc _).alloc _, q5, q6, fun _ h => (List.not_mem_nil h).elim, (hB1.alloc (by omega) _).alloc (by simp only [World.size_alloc]; omega) _⟩
  have hM := Lib.hid hM
  clear q5 q6
  gi_wp2
  obtain ⟨w2, hw2⟩ : ∃ w2, (w1.alloc (.cells #[.int .i64 0] 3)).alloc (.cells #[.int .i64 0] 3) = w2 := ⟨_, rfl⟩
  have z2 : w2.heap.size = w.heap.size + 1 + 1 + 1 + 1 + 1 + 1 + 1 := by rw [← hw2]; simp [z1'.out]
  rw [hw2] at hM ⊢
  clear hw2 c0 c1 c2 c3 c4 hB1 z1'
  obtain ⟨c0, c1, c2, c3, c4, c5, c6, _, hB2⟩ := hM.out
  refine wpIn_range_meets 2 rfl (by omega) (gf := 67) (lb := #[.pointer (some ⟨w.heap.size + 1 + 1 + 1, 0, none⟩), .pointer (some ⟨w.heap.size + 1 + 1 + 1 + 1, 0, none⟩)]) rfl trivial (enters_of Tryd.func67 (by kernel_rfl) rfl)
    (digits_stops 2 (by omega) 10 x (w.heap.size + 1 + 1 + 1) (w.heap.size + 1 + 1 + 1 + 1) (.inl rfl) hx w2 c3 c4) Kept.trans (kept_b (fun k e => by subst e; omega)) (Below.refl _ _) (fun _ => rfl)
    (EachI w x m s (w.heap.size + 1 + 1 + 1 + 1 + 1) (w.heap.size + 1 + 1 + 1 + 1 + 1 + 1) 0 []) (EachX w x m s (w.heap.size + 1 + 1 + 1 + 1 + 1) (w.heap.size + 1 + 1 + 1 + 1 + 1 + 1) 0 [])
    (EachM w x m s (w.heap.size + 1 + 1 + 1 + 1 + 1) (w.heap.size + 1 + 1 + 1 + 1 + 1 + 1) 0 [] (eachCount m s 0))
    (eachI_from _ _ _ _ _ _ _ _ _ (by omega) (by omega) (by omega) (fun _ h => (List.not_mem_nil h).elim)) (eachX_from _ _ _ _ _ _ _ _ _ (by omega) (by omega) (by omega) (fun _ h => (List.not_mem_nil h).elim)) ⟨⟨rfl, Nat.zero_le _, fun _ => .inl rfl⟩, hM.out⟩
    (fun _ _ => each_all hD0.out) (fun _ _ _ => each_left hD0.out)
    ?a1 ?assign ?body (fun _ _ h => h) ?rest
  case assign =>
    intro l y W K hK
    have hK' := Lib.hid hK
    clear hK
    dsimp only [encDig]
    gi_wp2
    exact hK'.out
  case body =>
    rintro l pre y W ⟨⟨hfit, hle, hcond⟩, hM⟩ hlen
    have hM' := Lib.hid hM
    obtain ⟨d0, d1, d2, d3, d4, d5, d6, _, hB⟩ := hM
    have e0 := d0.cell 0
    have e1 := d1.cell 0
    have e2 := d2.cell 0
    have e5 := d5.cell 0
    have e6 := d6.cell 0
    have f1 := d1.free 0
    have f6 := d6.free 0
    have hy16 : y.2.val < 16 := y.2.isLt
    have hfit' := Lib.hid hfit
    have hcond' := Lib.hid hcond
    clear hfit hcond
    gi_wp2
    · rename_i h1 h2 h3 h4 h5
      exact ⟨(KeepsOthers.setCell _ _ _).from _, .inl ⟨rfl, each_miss hD0.out h2 (by omega) (h5.resolve_left (by omega))⟩⟩
    · rename_i h1 h2 h3 h4 h5 h6
      have hl : (pre ++ [y]).length = pre.length + 1 := by simp
      refine ⟨(KeepsOthers.setCell _ _ _).from _, .inr ⟨rfl, rfl, each_hit hD0.out hfit'.out h1 h2 (by omega) h5.2, by omega, by omega, ?_, ?_⟩⟩
      · rcases hcond'.out trivial with h | h <;> omega
      · rw [hl]; exact hM'.out.count (by omega) (by omega) _
    · rename_i h1 h2 h3 h4 h5 h6
      have hl : (pre ++ [y]).length = pre.length + 1 := by simp
      refine ⟨(KeepsOthers.setCell _ _ _).from _, (Kept.refl _ _).setCell (by simp; omega) _, ⟨each_hit hD0.out hfit'.out h1 h2 (by omega) h5.2, by omega, fun _ => .inr (by omega)⟩, ?_⟩
      rw [hl]; exact hM'.out.count (by omega) (by omega) _
    · rename_i h1 h2 h3
      exact ⟨(KeepsOthers.setCell _ _ _).from _, .inl ⟨rfl, fun h => each_nine h3 h.1⟩⟩
    · rename_i h1 h2
      exact ⟨(KeepsOthers.setCell _ _ _).from _, .inl ⟨rfl, fun h => by have := h.2; simp at this; omega⟩⟩
    · rename_i h1
      exact ⟨(KeepsOthers.setCell _ _ _).from _, .inl ⟨rfl, fun h => each_place h1 h.1⟩⟩
  case rest =>
    rintro D W hD hM hDn
    have hM' := Lib.hid hM
    have hDn' := Lib.hid hDn
    obtain ⟨d0, d1, d2, d3, d4, d5, d6, _, hB⟩ := hM
    have e0 := d0.cell 0
    have e1 := d1.cell 0
    have e2 := d2.cell 0
    have e5 := d5.cell 0
    have e6 := d6.cell 0
    have hcn : eachCount m s 0 = min (s.size : Int) (max 1 m) := rfl
    rw [hcn] at e6
    have hDW := hDn.lt
    have z3 : w.heap.size + 1 + 1 + 1 + 1 + 1 + 1 + 1 ≤ W.heap.size := by omega
    gi_wp2
    all_goals
      rw [roundsIn_succ]
      have q5 := (Has.new W 3 #[.int .i64 1]).alloc (.cells #[.int .i64 0] 3)
      have q6 := Has.new (W.alloc (.cells #[.int .i64 1] 3)) 3 #[.int .i64 0]
      have n2 : EachM w x m s W.heap.size (W.heap.size + 1) 1 [D] 0 ((W.alloc (.cells #[.int .i64 1] 3)).alloc (.cells #[.int .i64 0] 3)) :=
        ⟨(d0.alloc _).alloc _, (d1.alloc _).alloc _, (d2.alloc _).alloc _, (d3.alloc _).alloc _, (d4.alloc _).alloc _, q5, by simpa using q6, fun D' h => by rw [List.mem_singleton.1 h]; exact (hDn'.out.alloc _).alloc _, (hB.alloc (by omega) _).alloc (by simp only [World.size_alloc]; omega) _⟩
      have n2' := Lib.hid n2
      clear q5 q6 n2
      gi_wp2
      obtain ⟨w3, hw3⟩ : ∃ w3, (W.alloc (.cells #[.int .i64 1] 3)).alloc (.cells #[.int .i64 0] 3) = w3 := ⟨_, rfl⟩
      have z4 : w3.heap.size = W.heap.size + 1 + 1 := by rw [← hw3]; simp
      rw [hw3] at n2' ⊢
      clear hw3 d0 d1 d2 d3 d4 d5 d6 hB e0 e1 e2 e5 e6
      obtain ⟨d0, d1, d2, d3, d4, d5, d6, _, hB⟩ := n2'.out
      refine wpIn_range_meets 2 rfl (by omega) (gf := 67) (lb := #[.pointer (some ⟨w.heap.size + 1 + 1 + 1, 0, none⟩), .pointer (some ⟨w.heap.size + 1 + 1 + 1 + 1, 0, none⟩)]) rfl trivial (enters_of Tryd.func67 (by kernel_rfl) rfl)
        (digits_stops 2 (by omega) 10 x (w.heap.size + 1 + 1 + 1) (w.heap.size + 1 + 1 + 1 + 1) (.inl rfl) hx w3 d3 d4) Kept.trans (kept_b (fun k e => by subst e; omega)) (Below.refl _ _) (fun _ => rfl)
        (EachI w x m s W.heap.size (W.heap.size + 1) 1 [D]) (EachX w x m s W.heap.size (W.heap.size + 1) 1 [D])
        (EachM w x m s W.heap.size (W.heap.size + 1) 1 [D] (eachCount m s 1))
        (eachI_from _ _ _ _ _ _ _ _ _ (by omega) (by omega) (by omega) (fun D' h => by rw [List.mem_singleton.1 h]; omega)) (eachX_from _ _ _ _ _ _ _ _ _ (by omega) (by omega) (by omega) (fun D' h => by rw [List.mem_singleton.1 h]; omega)) ⟨⟨rfl, Nat.zero_le _, fun _ => .inl rfl⟩, n2'.out⟩
        (fun _ _ => each_all hD0.out) (fun _ _ _ => each_left hD0.out)
        ?_ ?_ ?_ (fun _ _ h => h) ?_
      rotate_left
      · intro l y W9 K hK
        have hK' := Lib.hid hK
        clear hK
        dsimp only [encDig]
        gi_wp2
        exact hK'.out
      · rintro l pre y W9 ⟨⟨hfit, hle, hcond⟩, hM⟩ hlen
        have hM2 := Lib.hid hM
        clear hM'
        obtain ⟨g0, g1, g2, g3, g4, g5, g6, _, gB⟩ := hM
        have e0 := g0.cell 0
        have e1 := g1.cell 0
        have e2 := g2.cell 0
        have e5 := g5.cell 0
        have e6 := g6.cell 0
        have f1 := g1.free 0
        have f6 := g6.free 0
        have hy16 : y.2.val < 16 := y.2.isLt
        have hfit' := Lib.hid hfit
        clear hfit hcond
        gi_wp2
        · rename_i h1 h2 h3 h4 h5
          exact ⟨(KeepsOthers.setCell _ _ _).from _, .inl ⟨rfl, each_miss hD0.out h2 (by omega) (h5.resolve_left (by omega))⟩⟩
        · rename_i h1 h2 h3 h4 h5
          have hl : (pre ++ [y]).length = pre.length + 1 := by simp
          refine ⟨(KeepsOthers.setCell _ _ _).from _, (Kept.refl _ _).setCell (by simp; omega) _, ⟨each_hit hD0.out hfit'.out h1 h2 (by omega) h5.2, by omega, fun h => by cases h⟩, ?_⟩
          rw [hl]; exact hM2.out.count (by omega) (by omega) _
        · rename_i h1 h2 h3
          exact ⟨(KeepsOthers.setCell _ _ _).from _, .inl ⟨rfl, fun h => each_nine h3 h.1⟩⟩
        · rename_i h1 h2
          exact ⟨(KeepsOthers.setCell _ _ _).from _, .inl ⟨rfl, fun h => by have := h.2; simp at this; omega⟩⟩
        · rename_i h1
          exact ⟨(KeepsOthers.setCell _ _ _).from _, .inl ⟨rfl, fun h => each_place h1 h.1⟩⟩
      · rintro D2 W2 hD2 hM2 hDn2
        have hDn2' := Lib.hid hDn2
        have hDW2 := hDn2.lt
        clear hM'
        obtain ⟨g0, g1, g2, g3, g4, g5, g6, hds, gB⟩ := hM2
        have hds' := Lib.hid hds
        clear hds
        have e0 := g0.cell 0
        have e1 := g1.cell 0
        have e2 := g2.cell 0
        have e5 := g5.cell 0
        have e6 := g6.cell 0
        have hcn2 : eachCount m s 1 = (s.size : Int) := rfl
        rw [hcn2] at e6
        gi_wp2
        rw [roundsIn_succ]
        have q5 := Has.new W2 3 #[.int .i64 2]
        have e7 := q5.cell 0
        have g1' := g1.alloc (.cells #[.int .i64 2] 3)
        have e8 := g1'.cell 0
        have f8 := g1'.free 0
        have hT9 : Tab (W2.alloc (.cells #[.int .i64 2] 3)) := hT.below (gB.alloc (by omega) _)
        gi_wp2_with fail
        refine (callsIn_wide.2 (works_any _ hT9)).mono ?_
        rintro e w9 ⟨rfl, hb9⟩
        have g9 := g1'.below hb9 g1'.lt
        have e9 := g9.cell 0
        have f9 := g9.free 0
        have k2 := Lib.hid (((hDn2'.out.alloc (.cells #[.int .i64 2] 3)).below hb9 (by simp; omega)).set (i := 0) g9 (.bool true))
        have k1 := Lib.hid ((((hds'.out D List.mem_cons_self).alloc (.cells #[.int .i64 2] 3)).below hb9 (by simp; omega)).set (i := 0) g9 (.bool true))
        have g10 := g9.put 0 (.bool true)
        have hb10 := Lib.hid (((gB.alloc (by omega) (.cells #[.int .i64 2] 3)).trans (hb9.mono (by simp; omega))).setCell (p := ⟨w.heap.size + 1, 0, none⟩) (by simp) (.bool true))
        gi_wp2
        have hne : D ≠ D2 := by omega
        have k1' := (k1.out.put (.deferred none) hne)
        refine ⟨by simp, .inl ⟨_, _, rfl, run_takeDeferred k2.out, ⟨by simp, .inl ⟨_, _, rfl, run_takeDeferred k1', ?_⟩⟩⟩⟩
        have g11 := ((g10.put_obj (.deferred none) (l := D2) (by omega)).put_obj (.deferred none) (l := D) (by omega)).cell 0
        refine ⟨.bool true, ?_, rfl, ?_⟩
        · simp [results, Tryd.results6, go_sem, g11]
        · exact (hb10.out.trans (belowK_b (w := w) (Nat.le_refl _) _ D2 _ _ (by omega) k2.out rfl rfl)).trans (belowK_b (w := w) (Nat.le_refl _) _ D _ _ (by omega) k1' rfl rfl)
end Go.Proofs.YtjbcckmbpdahaaaDoor
