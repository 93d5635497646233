import Derived.Test.YthdmmlaahjgijaaDoorLnE
import Derived.Laws.AppendOwn
import Derived.Test.YthdmmlaahjgijaaDoorKf
namespace Go.Proofs.YthdmmlaahjgijaaDoor

/-! ## However bytes come in pieces: mathematics -/
theorem p65279 : ptB 65279 = [239, 187, 191] := by decide
theorem run_first {L : List UInt8} (h : (run4 L).1 ≠ []) : ∃ n y, isPt n ∧ (run4 L).1 = ptB n ++ y := by
  have h0 : L ≠ [] := by rintro rfl; exact h (by rw [run4_nil])
  by_cases hs : (look L).st = 2
  · exact absurd (by rw [run4_short hs]) h
  · exact ⟨(look L).point, _, look_isPt L, by rw [run4_step h0 hs, told_pt]⟩
theorem mark_split {t : List UInt8} (h : markB t = true) : t = ptB 65279 ++ t.drop 3 := by
  unfold markB at h
  have e : t.take 3 = [239, 187, 191] := of_decide_eq_true h
  rw [p65279, ← e, List.take_append_drop]
theorem markB_pt {n : Nat} (hn : isPt n) (y : List UInt8) : markB (ptB n ++ y) = decide (n = 65279) := by
  by_cases h : n = 65279
  · subst h
    rw [decide_eq_true rfl]
    unfold markB
    rw [p65279]
    exact decide_eq_true (by simp)
  · rw [decide_eq_false h]
    cases hb : markB (ptB n ++ y) with
    | false => rfl
    | true =>
      have e := mark_split hb
      have l1 := pt_look hn y
      have l2 := pt_look (n := 65279) (by decide) ((ptB n ++ y).drop 3)
      rw [← e, l1] at l2
      exact absurd (congrArg Look.point l2) h
theorem trim_pt {n : Nat} (hn : isPt n) (y : List UInt8) : trimL (ptB n ++ y) = if n = 65279 then y else ptB n ++ y := by
  unfold trimL
  rw [markB_pt hn]
  by_cases h : n = 65279
  · subst h
    rw [if_pos (by simp), if_pos rfl, p65279]
    rfl
  · rw [if_neg (by simpa using h), if_neg h]
theorem textL_append (any : Bool) (L t2 : List UInt8) : textL any ((run4 L).1 ++ t2) = textL any (run4 L).1 ++ textL (anyL any (run4 L).1) t2 := by
  cases any with
  | true => simp [textL, anyL]
  | false =>
    by_cases h : (run4 L).1 = []
    · rw [h]; simp [textL, anyL]
    · obtain ⟨n, y, hn, e⟩ := run_first h
      have ha : anyL false (run4 L).1 = true := by unfold anyL; simp [h]
      rw [ha]
      have h2 : (run4 L).1 ++ t2 ≠ [] := fun hh => h (List.append_eq_nil_iff.1 hh).1
      unfold textL
      rw [if_pos ⟨rfl, h2⟩, if_pos ⟨rfl, h⟩, if_neg (by simp), e, List.append_assoc, trim_pt hn, trim_pt hn]
      split
      · rfl
      · rw [List.append_assoc]
theorem anyL_append (any : Bool) (a b : List UInt8) : anyL any (a ++ b) = anyL (anyL any a) b := by
  unfold anyL
  cases any <;> cases a <;> simp
/-- How a splitter stands: the bytes that wait, whether a point came, the line under way. -/
structure CSt where
  ws : List UInt8
  any : Bool
  l : LSt
def init0 : CSt := ⟨[], false, ⟨[], false, false⟩⟩
/-- Bytes come: the lines that end with them, and how it stands. -/
def stepC (most : Nat) (s : CSt) (x : List UInt8) : List (List UInt8 × Bool) × CSt :=
  ((runL most s.l (textL s.any (run4 (s.ws ++ x)).1)).1, ⟨(run4 (s.ws ++ x)).2, anyL s.any (run4 (s.ws ++ x)).1, (runL most s.l (textL s.any (run4 (s.ws ++ x)).1)).2⟩)
theorem stepC_append (most : Nat) (s : CSt) (x y : List UInt8) : stepC most s (x ++ y) = ((stepC most s x).1 ++ (stepC most (stepC most s x).2 y).1, (stepC most (stepC most s x).2 y).2) := by
  unfold stepC
  simp only
  rw [← List.append_assoc, run4_append]
  simp only
  rw [textL_append, runL_append, anyL_append]
/-- What holds of every splitter. -/
structure CSt.ok (most : Nat) (s : CSt) : Prop where
  wait : run4 s.ws = ([], s.ws)
  line : s.l.ok most
  sound : SoundL s.l.bytes
  plain : noEnd s.l.bytes
theorem run_again (L : List UInt8) : run4 (run4 L).2 = ([], (run4 L).2) := by
  rcases run_wait L with h | h
  · rw [h, run4_nil]
  · exact run4_short h
theorem stepC_nil {most : Nat} {s : CSt} (h : s.ok most) : stepC most s [] = ([], s) := by
  unfold stepC
  rw [List.append_nil, h.wait]
  simp only
  have e1 : textL s.any [] = [] := by unfold textL; rw [if_neg (by simp)]
  have e2 : anyL s.any [] = s.any := by unfold anyL; simp
  rw [e1, e2]
  rfl
theorem sound_append {a b : List UInt8} (ha : SoundL a) (hb : SoundL b) : SoundL (a ++ b) := by
  refine along (P := fun a => SoundL a → SoundL (a ++ b)) (fun _ => hb) (fun l h0 ih hl => ?_) a ha
  obtain ⟨h1, h2⟩ := (sound_look h0).1 hl
  refine (sound_look (fun h => h0 (List.append_eq_nil_iff.1 h).1)).2 ?_
  rw [look_append b h0 (by omega)]
  refine ⟨h1, ?_⟩
  have hz := look_size h0
  rw [List.drop_append_of_le_length hz.2.2.1]
  exact ih h2
theorem run_sound (L : List UInt8) : SoundL (run4 L).1 := by
  refine along (P := fun L => SoundL (run4 L).1) (by rw [run4_nil]; exact sound_nil) (fun l h0 ih => ?_) L
  by_cases hs : (look l).st = 2
  · rw [run4_short hs]; exact sound_nil
  · rw [run4_step h0 hs, told_pt]
    exact sound_append (pt_sound (look_isPt l)) ih
theorem trim_sound {t : List UInt8} (h : SoundL t) : SoundL (trimL t) := by
  unfold trimL
  split
  · rename_i hm
    have e := mark_split hm
    have h0 : t ≠ [] := fun h => by rw [h] at e; rw [p65279] at e; cases e
    have hl := pt_look (n := 65279) (by decide) (t.drop 3)
    rw [← e] at hl
    have := ((sound_look h0).1 h).2
    rw [hl, p65279] at this
    exact this
  · exact h
theorem textL_sound (any : Bool) (L : List UInt8) : SoundL (textL any (run4 L).1) := by
  unfold textL
  split
  · exact trim_sound (run_sound L)
  · exact run_sound L
theorem addB_sound {most : Nat} {u b : List UInt8} {long : Bool} (hu : SoundL u) (hb : SoundL b) : SoundL (addB most u long b).1 := by
  unfold addB
  split
  · exact sound_nil
  · exact sound_append hu hb
theorem addB_plain {most : Nat} {u b : List UInt8} {long : Bool} (hu : noEnd u) (hb : noEnd b) : noEnd (addB most u long b).1 := by
  unfold addB
  split
  · exact fun c hc => absurd hc (by simp)
  · intro c hc
    rcases List.mem_append.1 hc with h | h
    · exact hu c h
    · exact hb c h
theorem noEnd_nil : noEnd [] := fun c hc => absurd hc (by simp)
theorem pt_plain {n : Nat} (h : isPt n) (h13 : n ≠ 13) (h10 : n ≠ 10) : noEnd (ptB n) := by
  obtain ⟨h1, _⟩ := h
  have key : ∀ m, m < 256 → m ≠ 13 → m ≠ 10 → u8 m ≠ 13 ∧ u8 m ≠ 10 := fun m hm ha hb =>
    ⟨fun e => ha (by have := congrArg UInt8.toNat e; rw [u8_toNat hm] at this; exact this), fun e => hb (by have := congrArg UInt8.toNat e; rw [u8_toNat hm] at this; exact this)⟩
  intro c hc
  unfold ptB at hc
  split at hc
  · obtain rfl : c = u8 n := by simpa using hc
    exact key _ (by omega) h13 h10
  · split at hc
    · have hc : c = u8 (192 + n / 64) ∨ c = u8 (128 + n % 64) := by simpa using hc
      rcases hc with rfl | rfl <;> exact key _ (by omega) (by omega) (by omega)
    · split at hc
      · have hc : c = u8 (224 + n / 4096) ∨ c = u8 (128 + n / 64 % 64) ∨ c = u8 (128 + n % 64) := by simpa using hc
        rcases hc with rfl | rfl | rfl <;> exact key _ (by omega) (by omega) (by omega)
      · have hc : c = u8 (240 + n / 262144) ∨ c = u8 (128 + n / 4096 % 64) ∨ c = u8 (128 + n / 64 % 64) ∨ c = u8 (128 + n % 64) := by simpa using hc
        rcases hc with rfl | rfl | rfl | rfl <;> exact key _ (by omega) (by omega) (by omega)
theorem ptB_ne (n : Nat) : ptB n ≠ [] := by unfold ptB; (repeat' split) <;> simp
/-- One point comes. -/
theorem runL_pt {most : Nat} {s : LSt} (hs : s.ok most) {n : Nat} (hn : isPt n) :
    runL most s (ptB n) = if s.half = true ∧ n = 10 then ([], ⟨s.bytes, s.long, false⟩)
      else if n = 13 ∨ n = 10 then ([(s.bytes, s.long)], ⟨[], false, decide (n = 13)⟩)
      else ([], ⟨(addB most s.bytes s.long (ptB n)).1, (addB most s.bytes s.long (ptB n)).2, false⟩) := by
  by_cases h13 : n = 13
  · subst h13
    have e : ptB 13 = [13] := by decide
    rw [e, if_neg (by simp), if_pos (.inl rfl)]
    simp [runL, stepL]
  · by_cases h10 : n = 10
    · subst h10
      have e : ptB 10 = [10] := by decide
      rw [e]
      by_cases hh : s.half = true
      · rw [if_pos ⟨hh, rfl⟩]; simp [runL, stepL, hh]
      · rw [if_neg (fun h => hh h.1), if_pos (.inr rfl)]; simp [runL, stepL, hh]
    · rw [if_neg (fun h => h10 h.2), if_neg (fun h => h.elim h13 h10)]
      exact runL_plain _ _ hs (pt_plain hn h13 h10) (ptB_ne n)
theorem runL_good {most : Nat} (t : List UInt8) : ∀ s : LSt, SoundL t → s.ok most → SoundL s.bytes → noEnd s.bytes →
    (∀ x ∈ (runL most s t).1, SoundL x.1 ∧ noEnd x.1 ∧ x.1.length ≤ most ∧ (x.2 = true → x.1 = [])) ∧ SoundL (runL most s t).2.bytes ∧ noEnd (runL most s t).2.bytes := by
  refine along (P := fun t => ∀ s : LSt, SoundL t → s.ok most → SoundL s.bytes → noEnd s.bytes →
    (∀ x ∈ (runL most s t).1, SoundL x.1 ∧ noEnd x.1 ∧ x.1.length ≤ most ∧ (x.2 = true → x.1 = [])) ∧ SoundL (runL most s t).2.bytes ∧ noEnd (runL most s t).2.bytes) ?_ ?_ t
  · intro s _ hs hb hp
    exact ⟨fun x hx => absurd hx (by simp [runL]), hb, hp⟩
  · intro l h0 ih s hl hs hb hp
    obtain ⟨h1, h2⟩ := (sound_look h0).1 hl
    obtain ⟨hw, hpt⟩ := whole_pt h1
    have e : l = ptB (look l).point ++ l.drop (look l).size := by rw [← hw, List.take_append_drop]
    generalize (look l).point = n at e hpt
    generalize l.drop (look l).size = r at e ih h2
    rw [e, runL_append]
    have hk := runL_ok (ptB n) s hs
    have hr := runL_pt hs hpt
    by_cases c1 : s.half = true ∧ n = 10
    · rw [if_pos c1] at hr
      rw [hr] at hk ⊢
      obtain ⟨g1, g2, g3⟩ := ih _ h2 hk hb hp
      exact ⟨fun x hx => g1 x (by simpa using hx), g2, g3⟩
    · rw [if_neg c1] at hr
      by_cases c2 : n = 13 ∨ n = 10
      · rw [if_pos c2] at hr
        rw [hr] at hk ⊢
        obtain ⟨g1, g2, g3⟩ := ih _ h2 hk sound_nil noEnd_nil
        refine ⟨fun x hx => ?_, g2, g3⟩
        rcases List.mem_append.1 hx with h | h
        · obtain rfl := List.mem_singleton.1 h
          exact ⟨hb, hp, hs.1, hs.2⟩
        · exact g1 x h
      · rw [if_neg c2] at hr
        rw [hr] at hk ⊢
        obtain ⟨g1, g2, g3⟩ := ih _ h2 hk (addB_sound hb (pt_sound hpt)) (addB_plain hp (pt_plain hpt (fun h => c2 (.inl h)) (fun h => c2 (.inr h))))
        exact ⟨fun x hx => g1 x (by simpa using hx), g2, g3⟩
theorem stepC_ok {most : Nat} {s : CSt} (h : s.ok most) (x : List UInt8) : (stepC most s x).2.ok most :=
  ⟨run_again _, runL_ok _ _ h.line, (runL_good _ s.l (textL_sound _ _) h.line h.sound h.plain).2.1, (runL_good _ s.l (textL_sound _ _) h.line h.sound h.plain).2.2⟩
theorem stepC_good {most : Nat} {s : CSt} (h : s.ok most) (x : List UInt8) : ∀ y ∈ (stepC most s x).1, SoundL y.1 ∧ noEnd y.1 ∧ y.1.length ≤ most ∧ (y.2 = true → y.1 = []) :=
  (runL_good _ s.l (textL_sound _ _) h.line h.sound h.plain).1
theorem init0_ok (most : Nat) : init0.ok most := ⟨run4_nil, ⟨Nat.zero_le _, fun _ => rfl⟩, sound_nil, noEnd_nil⟩
theorem runL_count {most : Nat} : ∀ (t : List UInt8) (s : LSt), (runL most s t).1.length ≤ t.length
  | [], _ => Nat.le_refl _
  | c :: r, s => by
    have ih := runL_count (most := most) r (stepL most s c).2
    have h1 : (stepL most s c).1.length ≤ 1 := by unfold stepL; (repeat' split) <;> simp
    simp only [runL, List.length_append, List.length_cons]
    omega
end Go.Proofs.YthdmmlaahjgijaaDoor
namespace Go.Proofs.YthdmmlaahjgijaaDoor
open Go.RowKit

/-! ## Lines in memory: a list of them -/
def linesC (l : List (List UInt8 × Bool)) : List Value := l.flatMap fun x => [.string ⟨x.1.toArray⟩, .bool x.2]
theorem linesC_length (l : List (List UInt8 × Bool)) : (linesC l).length = l.length * 2 := by
  induction l with
  | nil => rfl
  | cons x l ih => simp only [linesC, List.flatMap_cons, List.length_append, List.length_cons, List.length_nil] at ih ⊢; omega
theorem linesC_append (l m : List (List UInt8 × Bool)) : linesC (l ++ m) = linesC l ++ linesC m := by simp [linesC]
theorem linesC_get : ∀ (l : List (List UInt8 × Bool)) (i : Nat) (x : List UInt8 × Bool), l[i]? = some x → (linesC l)[i * 2]? = some (.string ⟨x.1.toArray⟩) ∧ (linesC l)[i * 2 + 1]? = some (.bool x.2)
  | [], i, x, h => by simp at h
  | y :: l, 0, x, h => by
    obtain rfl : y = x := by simpa using h
    exact ⟨rfl, rfl⟩
  | y :: l, i + 1, x, h => by
    have := linesC_get l i x (by simpa using h)
    show ((.string ⟨y.1.toArray⟩) :: (.bool y.2) :: linesC l)[(i + 1) * 2]? = _ ∧ ((.string ⟨y.1.toArray⟩) :: (.bool y.2) :: linesC l)[(i + 1) * 2 + 1]? = _
    rw [show (i + 1) * 2 = i * 2 + 1 + 1 from by omega, List.getElem?_cons_succ, List.getElem?_cons_succ, List.getElem?_cons_succ, List.getElem?_cons_succ]
    exact this
theorem linesC_one (l : List (List UInt8 × Bool)) : ∀ u ∈ linesC l, u.oneCell' = true := by
  intro u hu
  obtain ⟨x, _, hu⟩ := List.mem_flatMap.1 hu
  rcases List.mem_cons.1 hu with rfl | hu
  · rfl
  · obtain rfl := List.mem_singleton.1 hu
    rfl
def Lns (W : World) (n0 : Nat) (v : Value) (l : List (List UInt8 × Bool)) : Prop := W.ownsRow n0 70 2 v l.length (linesC l)
theorem lns_nil (W : World) (n0 : Nat) : Lns W n0 (.slice none 0 0) [] := ⟨rfl, .inl ⟨rfl, rfl⟩⟩
/-- Where such a list lies: block g (of none: nowhere). -/
def LnsIn (W : World) (n0 : Nat) (A : Option Addr) (l : List (List UInt8 × Bool)) : Prop := 0 < l.length → ∃ g, A = some ⟨g, 0, none⟩ ∧ n0 ≤ g ∧ g < W.heap.size ∧ ∀ i x, l[i]? = some x → W.cell? ⟨g, i * 2, none⟩ = some (.string ⟨x.1.toArray⟩) ∧ W.cell? ⟨g, i * 2 + 1, none⟩ = some (.bool x.2)
section
variable {W W' : World} {n0 : Nat} {v : Value} {l : List (List UInt8 × Bool)}
theorem Lns.shape (h : Lns W n0 v l) : ∃ A c, v = .slice A l.length c ∧ LnsIn W n0 A l := by
  have hh := h
  rcases h.2 with ⟨rfl, h0⟩ | ⟨g, cap, cur, rfl, hb, hg, _⟩
  · exact ⟨none, 0, by rw [h0], fun hl => by omega⟩
  · refine ⟨_, cap, rfl, fun _ => ⟨g, rfl, hb, (Array.getElem?_eq_some_iff.1 hg).1, fun i x hx => ?_⟩⟩
    have c := fun j u hu => World.ownsRow.cells (g := g) hh rfl j u hu
    simp only [add_zero_, Nat.zero_add] at c
    exact ⟨c _ _ (linesC_get l i x hx).1, c _ _ (linesC_get l i x hx).2⟩
theorem Lns.own (h : Lns W n0 v l) : ∀ g, v.ownBlock = some g → n0 ≤ g ∧ ∃ cs, Has W g 70 cs := by
  intro g hg
  rcases h.2 with ⟨rfl, _⟩ | ⟨g', cap, cur, rfl, hb, hh, r⟩
  · cases hg
  · obtain rfl : g' = g := by simpa [Value.ownBlock] using hg
    exact ⟨hb, cur, hh⟩
theorem Lns.kept (h : Lns W n0 v l) (k : ∀ g, v.ownBlock = some g → W'.heap[g]? = W.heap[g]?) : Lns W' n0 v l := by
  refine ⟨h.1, ?_⟩
  rcases h.2 with h | ⟨g, cap, cur, rfl, hb, hg, r⟩
  · exact .inl h
  · exact .inr ⟨g, cap, cur, rfl, hb, (k g rfl).trans hg, r⟩
theorem Lns.below (h : Lns W n0 v l) (hb : Below W.heap.size W W') : Lns W' n0 v l := h.kept fun g hg => hb.block g (h.own g hg).2.choose_spec.lt
theorem LnsIn.below {A : Option Addr} (h : LnsIn W n0 A l) (hb : Below W.heap.size W W') : LnsIn W' n0 A l := fun hl => by
  obtain ⟨g, rfl, h1, h2, h3⟩ := h hl
  refine ⟨g, rfl, h1, Nat.lt_of_lt_of_le h2 hb.size, fun i x hx => ?_⟩
  exact ⟨(hb.cell (p := ⟨g, i * 2, none⟩) h2).trans (h3 i x hx).1, (hb.cell (p := ⟨g, i * 2 + 1, none⟩) h2).trans (h3 i x hx).2⟩
end
theorem infoLine : (Tryd.prog.info? 70).map (fun i => (i.zero, i.size, i.bytes)) = some (some (.agg #[.string ⟨#[]⟩, .bool false]), 2, 24) := by kernel_rfl
section
variable {w : World} {ops : Array Oper} {rest : List Oper} {o : Oper} {a : Act} {Q : Exit → Act → World → Prop} {n0 : Nat} {v : Value} {l : List (List UInt8 × Bool)}
theorem wpList_append_line (hgd : o.guard = none) (s x : Operand) (ho : o.op = .call { callee := .builtin .append, args := #[s, x], argTypes := #[60, 60] }) (hsv : a.eval s = v) (hv : Lns w n0 v l)
    (k : Nat) (p : List UInt8) (q : Bool) (hxv : a.eval x = .slice (some ⟨k, 0, none⟩) 1 1) (hx : Has w k 70 #[.string ⟨p.toArray⟩, .bool q]) (hs : l.length + 1 ≤ 1099511627776) (hn : n0 ≤ w.heap.size)
    (h : ∀ v' w', Lns w' n0 v' (l ++ [(p, q)]) → w.grownBy w' v.ownBlock → wpList Tryd.prog ops Q rest (a.put o.dst v') w') : wpList Tryd.prog ops Q (o :: rest) a w := by
  obtain ⟨i, hi, hz, hz1, hz2⟩ := info_parts infoLine
  refine wpList_append_own w hgd s x 60 ho n0 70 i _ 2 24 Tryd.underlying60 hi hz hz1 hz2 rfl (by decide) v l.length (linesC l) hsv hv ⟨k, 0, none⟩ 1 1 (linesC [(p, q)]) hxv rfl (fun j u hu => ?_) (linesC_one _) (by simp only [maxLen]; omega) (by omega) hn (fun v' w' h1 h2 _ => h v' w' ?_ h2)
  · rw [add_zero_, Nat.zero_add, hx.cell]
    simpa [linesC] using hu
  · unfold Lns
    rw [List.length_append, List.length_singleton, linesC_append]
    exact h1
end
end Go.Proofs.YthdmmlaahjgijaaDoor
namespace Go.Proofs.YthdmmlaahjgijaaDoor

/-! ## The document's splitter, point by point: mathematics -/
def oneL (most : Nat) (line : List UInt8) : List UInt8 × Bool := if most < line.length then ([], true) else (line, false)
def absR (most : Nat) (line : List UInt8) (half : Bool) : LSt := ⟨(oneL most line).1, (oneL most line).2, half⟩
theorem absR_ok (most : Nat) (line : List UInt8) (half : Bool) : (absR most line half).ok most := by
  unfold absR oneL
  split
  · exact ⟨Nat.zero_le _, fun _ => rfl⟩
  · exact ⟨by simp; omega, fun h => by simp at h⟩
def stepP (most : Nat) (line : List UInt8) (half : Bool) (p : Nat) : List (List UInt8 × Bool) × List UInt8 × Bool :=
  if half = true ∧ p = 10 then ([], line, false)
  else if p = 13 ∨ p = 10 then ([oneL most line], [], decide (p = 13))
  else ([], if line.length ≤ most then line ++ ptB p else line, false)
theorem stepP_runL {most : Nat} {line : List UInt8} {half : Bool} {p : Nat} (hp : isPt p) : runL most (absR most line half) (ptB p) = ((stepP most line half p).1, absR most (stepP most line half p).2.1 (stepP most line half p).2.2) := by
  rw [runL_pt (absR_ok most line half) hp]
  unfold stepP
  by_cases h1 : half = true ∧ p = 10
  · have h1' : (absR most line half).half = true ∧ p = 10 := h1
    rw [if_pos h1, if_pos h1']; rfl
  · have h1' : ¬ ((absR most line half).half = true ∧ p = 10) := h1
    rw [if_neg h1, if_neg h1']
    by_cases h2 : p = 13 ∨ p = 10
    · rw [if_pos h2, if_pos h2]
      simp [absR, oneL]
    · rw [if_neg h2, if_neg h2]
      simp only
      congr 1
      unfold absR oneL addB
      by_cases h3 : most < line.length
      · simp [h3, show ¬ line.length ≤ most by omega]
      · simp only [h3, if_false, show line.length ≤ most by omega, if_true]
        by_cases h4 : most < line.length + (ptB p).length
        · rw [if_pos (.inr h4), if_pos (by rw [List.length_append]; exact h4)]
        · rw [if_neg (by simp; omega), if_neg (by rw [List.length_append]; exact h4)]
def stepM (most : Nat) (s : Bool × List UInt8 × Bool) (p : Nat) : List (List UInt8 × Bool) × Bool × List UInt8 × Bool :=
  if s.1 = false ∧ p = 65279 then ([], true, s.2) else ((stepP most s.2.1 s.2.2 p).1, true, (stepP most s.2.1 s.2.2 p).2)
def runP (most : Nat) : Bool × List UInt8 × Bool → List Nat → List (List UInt8 × Bool) × Bool × List UInt8 × Bool
  | s, [] => ([], s)
  | s, p :: r => ((stepM most s p).1 ++ (runP most (stepM most s p).2 r).1, (runP most (stepM most s p).2 r).2)
theorem runP_append (most : Nat) : ∀ (a b : List Nat) (s : Bool × List UInt8 × Bool), runP most s (a ++ b) = ((runP most s a).1 ++ (runP most (runP most s a).2 b).1, (runP most (runP most s a).2 b).2)
  | [], b, s => by simp [runP]
  | p :: r, b, s => by
    have ih := runP_append most r b (stepM most s p).2
    simp only [List.cons_append, runP, ih, List.append_assoc]
theorem runP_next (most : Nat) (s : Bool × List UInt8 × Bool) {ps : List Nat} {k p : Nat} (h : ps[k]? = some p) :
    runP most s (ps.take (k + 1)) = ((runP most s (ps.take k)).1 ++ (stepM most (runP most s (ps.take k)).2 p).1, (stepM most (runP most s (ps.take k)).2 p).2) := by
  obtain ⟨hk, rfl⟩ := List.getElem?_eq_some_iff.1 h
  rw [List.take_succ_eq_append_getElem hk, runP_append]
  simp [runP]
theorem runP_true {most : Nat} : ∀ (ps : List Nat) (line : List UInt8) (half : Bool), (∀ p ∈ ps, isPt p) →
    runL most (absR most line half) (ps.flatMap ptB) = ((runP most (true, line, half) ps).1, absR most (runP most (true, line, half) ps).2.2.1 (runP most (true, line, half) ps).2.2.2) ∧ (runP most (true, line, half) ps).2.1 = true
  | [], line, half, _ => ⟨rfl, rfl⟩
  | p :: r, line, half, h => by
    have hp := h p List.mem_cons_self
    have hs : stepM most (true, line, half) p = ((stepP most line half p).1, true, (stepP most line half p).2) := by unfold stepM; rw [if_neg (by simp)]
    have ih := runP_true (most := most) r (stepP most line half p).2.1 (stepP most line half p).2.2 (fun q hq => h q (List.mem_cons_of_mem _ hq))
    rw [List.flatMap_cons, runL_append, stepP_runL hp]
    simp only [runP, hs]
    rw [ih.1]
    exact ⟨rfl, ih.2⟩
theorem runP_any {most : Nat} (any : Bool) (ps : List Nat) (line : List UInt8) (half : Bool) (h : ∀ p ∈ ps, isPt p) :
    runL most (absR most line half) (textL any (ps.flatMap ptB)) = ((runP most (any, line, half) ps).1, absR most (runP most (any, line, half) ps).2.2.1 (runP most (any, line, half) ps).2.2.2) ∧ (runP most (any, line, half) ps).2.1 = anyL any (ps.flatMap ptB) := by
  cases any with
  | true =>
    have := runP_true (most := most) ps line half h
    exact ⟨by unfold textL; rw [if_neg (by simp)]; exact this.1, by unfold anyL; simp [this.2]⟩
  | false =>
    cases ps with
    | nil => exact ⟨rfl, rfl⟩
    | cons p r =>
      have hp := h p List.mem_cons_self
      have hr : ∀ q ∈ r, isPt q := fun q hq => h q (List.mem_cons_of_mem _ hq)
      have hne : (p :: r).flatMap ptB ≠ [] := by
        rw [List.flatMap_cons]
        exact fun e => ptB_ne p (List.append_eq_nil_iff.1 e).1
      have hany : anyL false ((p :: r).flatMap ptB) = true := by unfold anyL; simp only [Bool.false_or, decide_eq_true_eq]; exact hne
      have htx : textL false ((p :: r).flatMap ptB) = if p = 65279 then r.flatMap ptB else ptB p ++ r.flatMap ptB := by
        unfold textL
        rw [if_pos ⟨rfl, hne⟩, List.flatMap_cons, trim_pt hp]
      rw [hany, htx]
      by_cases hm : p = 65279
      · have hs : stepM most (false, line, half) p = ([], true, line, half) := by unfold stepM; rw [if_pos ⟨rfl, hm⟩]
        have ih := runP_true (most := most) r line half hr
        rw [if_pos hm]
        simp only [runP, hs, List.nil_append]
        exact ih
      · have hs : stepM most (false, line, half) p = ((stepP most line half p).1, true, (stepP most line half p).2) := by unfold stepM; rw [if_neg (fun h => hm h.2)]
        have ih := runP_true (most := most) r (stepP most line half p).2.1 (stepP most line half p).2.2 hr
        rw [if_neg hm, runL_append, stepP_runL hp]
        simp only [runP, hs]
        rw [ih.1]
        exact ⟨rfl, ih.2⟩
/-- The points of a text. -/
def ptsL (t : List UInt8) : List Nat := (ptsOf t (placesFrom t 0)).map (·.2)
theorem ptsL_pt (t : List UInt8) : ∀ p ∈ ptsL t, isPt p := by
  intro p hp
  unfold ptsL ptsOf at hp
  rw [List.map_map] at hp
  obtain ⟨q, _, rfl⟩ := List.mem_map.1 hp
  exact look_isPt _
theorem ptsL_text {t : List UInt8} (h : SoundL t) : (ptsL t).flatMap ptB = t := by
  have h1 := conc_places t
  unfold SoundL at h
  rw [h] at h1
  conv => rhs; rw [← h1]
  unfold ptsL ptsOf conc
  rw [List.map_map, List.flatMap_map]
  congr 1
  funext p
  show ptB (look (t.drop p)).point = told (t.drop p)
  rw [told_pt]
/-- How the document's splitter stands. -/
structure RSt where
  ws : List UInt8
  line : List UInt8
  any : Bool
  half : Bool
def absC (most : Nat) (r : RSt) : CSt := ⟨r.ws, r.any, absR most r.line r.half⟩
def initR : RSt := ⟨[], [], false, false⟩
theorem absC_init (most : Nat) : absC most initR = init0 := by simp [absC, initR, init0, absR, oneL]
def stepR (most : Nat) (r : RSt) (x : List UInt8) : List (List UInt8 × Bool) × RSt :=
  ((runP most (r.any, r.line, r.half) (ptsL (run4 (r.ws ++ x)).1)).1, ⟨(run4 (r.ws ++ x)).2, (runP most (r.any, r.line, r.half) (ptsL (run4 (r.ws ++ x)).1)).2.2.1, (runP most (r.any, r.line, r.half) (ptsL (run4 (r.ws ++ x)).1)).2.1, (runP most (r.any, r.line, r.half) (ptsL (run4 (r.ws ++ x)).1)).2.2.2⟩)
theorem stepR_stepC (most : Nat) (r : RSt) (x : List UInt8) : stepC most (absC most r) x = ((stepR most r x).1, absC most (stepR most r x).2) := by
  have h := runP_any (most := most) r.any (ptsL (run4 (r.ws ++ x)).1) r.line r.half (ptsL_pt _)
  rw [ptsL_text (run_sound _)] at h
  unfold stepC stepR absC
  simp only
  rw [h.1, h.2]
theorem stepP_len {most : Nat} {line : List UInt8} {half : Bool} {p : Nat} (h : line.length ≤ most + 4) : (stepP most line half p).2.1.length ≤ most + 4 := by
  unfold stepP
  split
  · exact h
  · split
    · simp
    · simp only
      split
      · have := ptB_len p
        rw [List.length_append]; omega
      · exact h
theorem runP_len {most : Nat} : ∀ (ps : List Nat) (s : Bool × List UInt8 × Bool), s.2.1.length ≤ most + 4 → (runP most s ps).2.2.1.length ≤ most + 4
  | [], _, h => h
  | p :: r, s, h => by
    refine runP_len r _ ?_
    unfold stepM
    split
    · exact h
    · exact stepP_len h
theorem stepR_len {most : Nat} {r : RSt} (h : r.line.length ≤ most + 4) (x : List UInt8) : (stepR most r x).2.line.length ≤ most + 4 := runP_len _ (r.any, r.line, r.half) h
theorem runP_count {most : Nat} : ∀ (ps : List Nat) (s : Bool × List UInt8 × Bool), (runP most s ps).1.length ≤ ps.length
  | [], _ => Nat.le_refl _
  | p :: r, s => by
    have ih := runP_count (most := most) r (stepM most s p).2
    have h1 : (stepM most s p).1.length ≤ 1 := by unfold stepM stepP; (repeat' split) <;> simp
    simp only [runP, List.length_append, List.length_cons]
    omega
end Go.Proofs.YthdmmlaahjgijaaDoor
