import Derived.Test.YthdmmlaahjgijaaDoorLnF
namespace Go.Proofs.YthdmmlaahjgijaaDoor

/-! ## However bytes come in pieces: mathematics -/
theorem p65279 : ptB 65279 = [239, 187, 191] := by decide
theorem run_first {L : List UInt8} (h : (run4 L).1 ≠ []) : ∃ n y, isPt n ∧ (run4 L).1 = ptB n ++ y := by
  have h0 : L ≠ [] := by rintro rfl; exact h (by rw [run4_nil])
  by_cases hs : (look L).st = 2
  · exact absurd (by rw [run4_short hs]) h
  · exact ⟨(look L).point, _, look_isPt L, by rw [run4_step h0 hs, told_pt]⟩
theorem mark_split {t : List UInt8} (h : markB t = true) : t = ptB 65279 ++ t.drop 3 := by
  unfold markB at h
  have e : t.take 3 = [239, 187, 191] := of_decide_eq_true h
  rw [p65279, ← e, List.take_append_drop]
theorem markB_pt {n : Nat} (hn : isPt n) (y : List UInt8) : markB (ptB n ++ y) = decide (n = 65279) := by
  by_cases h : n = 65279
  · subst h
    rw [decide_eq_true rfl]
    unfold markB
    rw [p65279]
    exact decide_eq_true (by simp)
  · rw [decide_eq_false h]
    cases hb : markB (ptB n ++ y) with
    | false => rfl
    | true =>
      have e := mark_split hb
      have l1 := pt_look hn y
      have l2 := pt_look (n := 65279) (by decide) ((ptB n ++ y).drop 3)
      rw [← e, l1] at l2
      exact absurd (congrArg Look.point l2) h
theorem trim_pt {n : Nat} (hn : isPt n) (y : List UInt8) : trimL (ptB n ++ y) = if n = 65279 then y else ptB n ++ y := by
  unfold trimL
  rw [markB_pt hn]
  by_cases h : n = 65279
  · subst h
    rw [if_pos (by simp), if_pos rfl, p65279]
    rfl
  · rw [if_neg (by simpa using h), if_neg h]
theorem textL_append (any : Bool) (L t2 : List UInt8) : textL any ((run4 L).1 ++ t2) = textL any (run4 L).1 ++ textL (anyL any (run4 L).1) t2 := by
  cases any with
  | true => simp [textL, anyL]
  | false =>
    by_cases h : (run4 L).1 = []
    · rw [h]; simp [textL, anyL]
    · obtain ⟨n, y, hn, e⟩ := run_first h
      have ha : anyL false (run4 L).1 = true := by unfold anyL; simp [h]
      rw [ha]
      have h2 : (run4 L).1 ++ t2 ≠ [] := fun hh => h (List.append_eq_nil_iff.1 hh).1
      unfold textL
      rw [if_pos ⟨rfl, h2⟩, if_pos ⟨rfl, h⟩, if_neg (by simp), e, List.append_assoc, trim_pt hn, trim_pt hn]
      split
      · rfl
      · rw [List.append_assoc]
theorem anyL_append (any : Bool) (a b : List UInt8) : anyL any (a ++ b) = anyL (anyL any a) b := by
  unfold anyL
  cases any <;> cases a <;> simp
/-- How a splitter stands: the bytes that wait, whether a point came, the line under way. -/
structure CSt where
  ws : List UInt8
  any : Bool
  l : LSt
def init0 : CSt := ⟨[], false, ⟨[], false, false⟩⟩
/-- Bytes come: the lines that end with them, and how it stands. -/
def stepC (most : Nat) (s : CSt) (x : List UInt8) : List (List UInt8 × Bool) × CSt :=
  ((runL most s.l (textL s.any (run4 (s.ws ++ x)).1)).1, ⟨(run4 (s.ws ++ x)).2, anyL s.any (run4 (s.ws ++ x)).1, (runL most s.l (textL s.any (run4 (s.ws ++ x)).1)).2⟩)
theorem stepC_append (most : Nat) (s : CSt) (x y : List UInt8) : stepC most s (x ++ y) = ((stepC most s x).1 ++ (stepC most (stepC most s x).2 y).1, (stepC most (stepC most s x).2 y).2) := by
  unfold stepC
  simp only
  rw [← List.append_assoc, run4_append]
  simp only
  rw [textL_append, runL_append, anyL_append]
/-- What holds of every splitter. -/
structure CSt.ok (most : Nat) (s : CSt) : Prop where
  wait : run4 s.ws = ([], s.ws)
  line : s.l.ok most
  sound : SoundL s.l.bytes
  plain : noEnd s.l.bytes
theorem run_again (L : List UInt8) : run4 (run4 L).2 = ([], (run4 L).2) := by
  rcases run_wait L with h | h
  · rw [h, run4_nil]
  · exact run4_short h
theorem stepC_nil {most : Nat} {s : CSt} (h : s.ok most) : stepC most s [] = ([], s) := by
  unfold stepC
  rw [List.append_nil, h.wait]
  simp only
  have e1 : textL s.any [] = [] := by unfold textL; rw [if_neg (by simp)]
  have e2 : anyL s.any [] = s.any := by unfold anyL; simp
  rw [e1, e2]
  rfl
theorem sound_append {a b : List UInt8} (ha : SoundL a) (hb : SoundL b) : SoundL (a ++ b) := by
  refine along (P := fun a => SoundL a → SoundL (a ++ b)) (fun _ => hb) (fun l h0 ih hl => ?_) a ha
  obtain ⟨h1, h2⟩ := (sound_look h0).1 hl
  refine (sound_look (fun h => h0 (List.append_eq_nil_iff.1 h).1)).2 ?_
  rw [look_append b h0 (by omega)]
  refine ⟨h1, ?_⟩
  have hz := look_size h0
  rw [List.drop_append_of_le_length hz.2.2.1]
  exact ih h2
theorem run_sound (L : List UInt8) : SoundL (run4 L).1 := by
  refine along (P := fun L => SoundL (run4 L).1) (by rw [run4_nil]; exact sound_nil) (fun l h0 ih => ?_) L
  by_cases hs : (look l).st = 2
  · rw [run4_short hs]; exact sound_nil
  · rw [run4_step h0 hs, told_pt]
    exact sound_append (pt_sound (look_isPt l)) ih
theorem trim_sound {t : List UInt8} (h : SoundL t) : SoundL (trimL t) := by
  unfold trimL
  split
  · rename_i hm
    have e := mark_split hm
    have h0 : t ≠ [] := fun h => by rw [h] at e; rw [p65279] at e; cases e
    have hl := pt_look (n := 65279) (by decide) (t.drop 3)
    rw [← e] at hl
    have := ((sound_look h0).1 h).2
    rw [hl, p65279] at this
    exact this
  · exact h
theorem textL_sound (any : Bool) (L : List UInt8) : SoundL (textL any (run4 L).1) := by
  unfold textL
  split
  · exact trim_sound (run_sound L)
  · exact run_sound L
theorem addB_sound {most : Nat} {u b : List UInt8} {long : Bool} (hu : SoundL u) (hb : SoundL b) : SoundL (addB most u long b).1 := by
  unfold addB
  split
  · exact sound_nil
  · exact sound_append hu hb
theorem addB_plain {most : Nat} {u b : List UInt8} {long : Bool} (hu : noEnd u) (hb : noEnd b) : noEnd (addB most u long b).1 := by
  unfold addB
  split
  · exact fun c hc => absurd hc (by simp)
  · intro c hc
    rcases List.mem_append.1 hc with h | h
    · exact hu c h
    · exact hb c h
theorem noEnd_nil : noEnd [] := fun c hc => absurd hc (by simp)
theorem pt_plain {n : Nat} (h : isPt n) (h13 : n ≠ 13) (h10 : n ≠ 10) : noEnd (ptB n) := by
  obtain ⟨h1, _⟩ := h
  have key : ∀ m, m < 256 → m ≠ 13 → m ≠ 10 → u8 m ≠ 13 ∧ u8 m ≠ 10 := fun m hm ha hb =>
    ⟨fun e => ha (by have := congrArg UInt8.toNat e; rw [u8_toNat hm] at this; exact this), fun e => hb (by have := congrArg UInt8.toNat e; rw [u8_toNat hm] at this; exact this)⟩
  intro c hc
  unfold ptB at hc
  split at hc
  · obtain rfl : c = u8 n := by simpa using hc
    exact key _ (by omega) h13 h10
  · split at hc
    · have hc : c = u8 (192 + n / 64) ∨ c = u8 (128 + n % 64) := by simpa using hc
      rcases hc with rfl | rfl <;> exact key _ (by omega) (by omega) (by omega)
    · split at hc
      · have hc : c = u8 (224 + n / 4096) ∨ c = u8 (128 + n / 64 % 64) ∨ c = u8 (128 + n % 64) := by simpa using hc
        rcases hc with rfl | rfl | rfl <;> exact key _ (by omega) (by omega) (by omega)
      · have hc : c = u8 (240 + n / 262144) ∨ c = u8 (128 + n / 4096 % 64) ∨ c = u8 (128 + n / 64 % 64) ∨ c = u8 (128 + n % 64) := by simpa using hc
        rcases hc with rfl | rfl | rfl | rfl <;> exact key _ (by omega) (by omega) (by omega)
theorem ptB_ne (n : Nat) : ptB n ≠ [] := by unfold ptB; (repeat' split) <;> simp
/-- One point comes. -/
theorem runL_pt {most : Nat} {s : LSt} (hs : s.ok most) {n : Nat} (hn : isPt n) :
    runL most s (ptB n) = if s.half = true ∧ n = 10 then ([], ⟨s.bytes, s.long, false⟩)
      else if n = 13 ∨ n = 10 then ([(s.bytes, s.long)], ⟨[], false, decide (n = 13)⟩)
      else ([], ⟨(addB most s.bytes s.long (ptB n)).1, (addB most s.bytes s.long (ptB n)).2, false⟩) := by
  by_cases h13 : n = 13
  · subst h13
    have e : ptB 13 = [13] := by decide
    rw [e, if_neg (by simp), if_pos (.inl rfl)]
    simp [runL, stepL]
  · by_cases h10 : n = 10
    · subst h10
      have e : ptB 10 = [10] := by decide
      rw [e]
      by_cases hh : s.half = true
      · rw [if_pos ⟨hh, rfl⟩]; simp [runL, stepL, hh]
      · rw [if_neg (fun h => hh h.1), if_pos (.inr rfl)]; simp [runL, stepL, hh]
    · rw [if_neg (fun h => h10 h.2), if_neg (fun h => h.elim h13 h10)]
      exact runL_plain _ _ hs (pt_plain hn h13 h10) (ptB_ne n)
theorem runL_good {most : Nat} (t : List UInt8) : ∀ s : LSt, SoundL t → s.ok most → SoundL s.bytes → noEnd s.bytes →
    (∀ x ∈ (runL most s t).1, SoundL x.1 ∧ noEnd x.1 ∧ x.1.length ≤ most ∧ (x.2 = true → x.1 = [])) ∧ SoundL (runL most s t).2.bytes ∧ noEnd (runL most s t).2.bytes := by
  refine along (P := fun t => ∀ s : LSt, SoundL t → s.ok most → SoundL s.bytes → noEnd s.bytes →
    (∀ x ∈ (runL most s t).1, SoundL x.1 ∧ noEnd x.1 ∧ x.1.length ≤ most ∧ (x.2 = true → x.1 = [])) ∧ SoundL (runL most s t).2.bytes ∧ noEnd (runL most s t).2.bytes) ?_ ?_ t
  · intro s _ hs hb hp
    exact ⟨fun x hx => absurd hx (by simp [runL]), hb, hp⟩
  · intro l h0 ih s hl hs hb hp
    obtain ⟨h1, h2⟩ := (sound_look h0).1 hl
    obtain ⟨hw, hpt⟩ := whole_pt h1
    have e : l = ptB (look l).point ++ l.drop (look l).size := by rw [← hw, List.take_append_drop]
    generalize (look l).point = n at e hpt
    generalize l.drop (look l).size = r at e ih h2
    rw [e, runL_append]
    have hk := runL_ok (ptB n) s hs
    have hr := runL_pt hs hpt
    by_cases c1 : s.half = true ∧ n = 10
    · rw [if_pos c1] at hr
      rw [hr] at hk ⊢
      obtain ⟨g1, g2, g3⟩ := ih _ h2 hk hb hp
      exact ⟨fun x hx => g1 x (by simpa using hx), g2, g3⟩
    · rw [if_neg c1] at hr
      by_cases c2 : n = 13 ∨ n = 10
      · rw [if_pos c2] at hr
        rw [hr] at hk ⊢
        obtain ⟨g1, g2, g3⟩ := ih _ h2 hk sound_nil noEnd_nil
        refine ⟨fun x hx => ?_, g2, g3⟩
        rcases List.mem_append.1 hx with h | h
        · obtain rfl := List.mem_singleton.1 h
          exact ⟨hb, hp, hs.1, hs.2⟩
        · exact g1 x h
      · rw [if_neg c2] at hr
        rw [hr] at hk ⊢
        obtain ⟨g1, g2, g3⟩ := ih _ h2 hk (addB_sound hb (pt_sound hpt)) (addB_plain hp (pt_plain hpt (fun h => c2 (.inl h)) (fun h => c2 (.inr h))))
        exact ⟨fun x hx => g1 x (by simpa using hx), g2, g3⟩
theorem stepC_ok {most : Nat} {s : CSt} (h : s.ok most) (x : List UInt8) : (stepC most s x).2.ok most :=
  ⟨run_again _, runL_ok _ _ h.line, (runL_good _ s.l (textL_sound _ _) h.line h.sound h.plain).2.1, (runL_good _ s.l (textL_sound _ _) h.line h.sound h.plain).2.2⟩
theorem stepC_good {most : Nat} {s : CSt} (h : s.ok most) (x : List UInt8) : ∀ y ∈ (stepC most s x).1, SoundL y.1 ∧ noEnd y.1 ∧ y.1.length ≤ most ∧ (y.2 = true → y.1 = []) :=
  (runL_good _ s.l (textL_sound _ _) h.line h.sound h.plain).1
theorem init0_ok (most : Nat) : init0.ok most := ⟨run4_nil, ⟨Nat.zero_le _, fun _ => rfl⟩, sound_nil, noEnd_nil⟩
theorem runL_count {most : Nat} : ∀ (t : List UInt8) (s : LSt), (runL most s t).1.length ≤ t.length
  | [], _ => Nat.le_refl _
  | c :: r, s => by
    have ih := runL_count (most := most) r (stepL most s c).2
    have h1 : (stepL most s c).1.length ≤ 1 := by unfold stepL; (repeat' split) <;> simp
    simp only [runL, List.length_append, List.length_cons]
    omega
end Go.Proofs.YthdmmlaahjgijaaDoor
