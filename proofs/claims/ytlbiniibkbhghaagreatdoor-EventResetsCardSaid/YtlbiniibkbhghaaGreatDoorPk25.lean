import Derived.Test.YtlbiniibkbhghaaGreatDoorPk11
import Derived.KernelRfl
namespace Go.Proofs.YtlbiniibkbhghaaGreatDoor
open Go.RowKit Go.Shelf
attribute [local go_sem] Oper.semAt_some

/-! ## Texts, read back -/
def valR (b : Int) : List UInt8 → Int
  | [] => 0
  | c :: l => worth (c.toNat : Int) * b ^ l.length + valR b l
def Digs (b : Int) (l : List UInt8) : Prop := ∀ c ∈ l, 0 ≤ worth (c.toNat : Int) ∧ worth (c.toNat : Int) < b
theorem valR_append (b : Int) (l m : List UInt8) : valR b (l ++ m) = valR b l * b ^ m.length + valR b m := by
  induction l with
  | nil => simp [valR]
  | cons c l ih =>
    simp only [List.cons_append, valR, ih, List.length_append, Int.pow_add]
    rw [Int.add_mul, Int.mul_assoc, Int.add_assoc]
theorem valR_snoc (b : Int) (l : List UInt8) (c : UInt8) : valR b (l ++ [c]) = valR b l * b + worth (c.toNat : Int) := by
  rw [valR_append]; simp [valR, Int.pow_succ]
theorem valR_nonneg {b : Int} (hb : 1 ≤ b) : ∀ (l : List UInt8), Digs b l → 0 ≤ valR b l
  | [], _ => by simp [valR]
  | c :: l, h => by
    have h1 := (h c List.mem_cons_self).1
    have h2 := valR_nonneg hb l (fun d hd => h d (List.mem_cons_of_mem _ hd))
    have h3 : 0 ≤ b ^ l.length := Int.pow_nonneg (by omega)
    have := Int.mul_nonneg h1 h3
    simp only [valR]; omega
theorem goesR_val {b : Int} (hb : 1 ≤ b) (l : List UInt8) (hl : Digs b l) (hv : valR b l < 18446744073709551616) : goesR b l = (valR b l, 0) := by
  have key : ∀ (n : Nat) (l : List UInt8), l.length = n → Digs b l → valR b l < 18446744073709551616 → goesR b l = (valR b l, 0) := by
    intro n
    induction n with
    | zero => intro l h _ _; rw [List.eq_nil_of_length_eq_zero h]; rfl
    | succ n ih =>
      intro l h hl hv
      obtain ⟨m, c, rfl⟩ : ∃ m c, l = m ++ [c] := by
        have hne : l ≠ [] := by intro e; rw [e] at h; simp at h
        exact ⟨l.dropLast, l.getLast hne, (List.dropLast_concat_getLast hne).symm⟩
      have hm : Digs b m := fun d hd => hl d (List.mem_append_left _ hd)
      have hc := hl c (by simp)
      have h0 := valR_nonneg hb m hm
      rw [valR_snoc] at hv ⊢
      have h1 : valR b m ≤ valR b m * b := by
        have := Int.mul_le_mul_of_nonneg_left hb h0
        omega
      rw [goesR_snoc, ih m (by simpa using h) hm (by omega), step_go rfl]
      have hmul : mulR (valR b m) b = (valR b m * b, 0) := mulR_lo _ _ (by omega)
      unfold moreR
      rw [hmul]
      show (if (0 : Int) = 0 then addR (valR b m * b) (worth (c.toNat : Int)) else (0, 0)) = _
      rw [if_pos rfl]
      exact if_pos (by omega)
  exact key _ l rfl hl hv
theorem numR_val {b : Int} (hb : 1 ≤ b) (l : List UInt8) (h0 : l ≠ []) (hl : Digs b l) (hv : valR b l < 18446744073709551616) : numR b l = (valR b l, 0) := by
  rw [← goesR_val hb l hl hv]
  exact if_pos ⟨h0, fun c hc => decide_eq_true (hl c hc).2⟩

/-- A sign that is worth its digit, small or great. -/
def Fair (f : Nat → UInt8) : Prop := ∀ d, d < 16 → worth ((f d).toNat : Int) = d
theorem fair_sgn : Fair sgn := by
  have : ∀ d : Fin 16, worth ((sgn d.1).toNat : Int) = d.1 := by decide
  exact fun d h => this ⟨d, h⟩
def spelt (f : Nat → UInt8) (b x K : Nat) : List UInt8 := (upto (fun k => f (digAt b x k)) K).reverse
theorem spelt_succ (f : Nat → UInt8) (b x k : Nat) : spelt f b x (k + 1) = f (digAt b x k) :: spelt f b x k := by simp [spelt, upto_succ]
theorem spelt_length (f : Nat → UInt8) (b x k : Nat) : (spelt f b x k).length = k := by simp [spelt, upto_length]
theorem spelt_val {f : Nat → UInt8} (hf : Fair f) {b : Nat} (hb : b = 10 ∨ b = 16) (x : Nat) : ∀ K, Digs b (spelt f b x K) ∧ valR b (spelt f b x K) = ((x % b ^ K : Nat) : Int)
  | 0 => by constructor <;> simp [spelt, upto, Digs, valR, Nat.mod_one]
  | K + 1 => by
    obtain ⟨h1, h2⟩ := spelt_val hf hb x K
    have hd : digAt b x K < b := Nat.mod_lt _ (by omega)
    have hw := hf (digAt b x K) (by omega)
    rw [spelt_succ]
    refine ⟨?_, ?_⟩
    · intro c hc
      rcases List.mem_cons.1 hc with rfl | hc
      · rw [hw]; omega
      · exact h1 c hc
    · simp only [valR]
      rw [hw, h2, spelt_length]
      have ex : x % b ^ (K + 1) = x % b ^ K + b ^ K * digAt b x K := by rw [Nat.pow_succ, Nat.mod_mul]; rfl
      rw [ex, Int.natCast_add, Int.natCast_mul, Int.natCast_pow, Int.mul_comm, Int.add_comm]
theorem isLen_lt {b x K : Nat} (hb : 0 < b) (h : IsLen b x K) : x < b ^ K := by
  have := h.2.1
  rw [Nat.div_eq_zero_iff] at this
  have : 0 < b ^ K := Nat.pow_pos hb
  omega
theorem digs_zeros {b : Int} (hb : 1 ≤ b) (k : Nat) : Digs b (List.replicate k 48) := by
  intro c hc
  rw [(List.mem_replicate.1 hc).2]
  show 0 ≤ worth 48 ∧ worth 48 < b
  have : worth 48 = 0 := rfl
  rw [this]; omega
theorem val_zeros (b : Int) : ∀ k, valR b (List.replicate k 48) = 0
  | 0 => rfl
  | k + 1 => by
    rw [List.replicate_succ]
    simp only [valR, val_zeros b k]
    have : worth ((48 : UInt8).toNat : Int) = 0 := rfl
    rw [this]; simp
/-- Noughts ahead change nothing. -/
theorem numR_spelt {f : Nat → UInt8} (hf : Fair f) {b : Nat} (hb : b = 10 ∨ b = 16) {x K : Nat} (hx : x < 18446744073709551616) (hK : IsLen b x K) (k : Nat) : numR b (List.replicate k 48 ++ spelt f b x K) = ((x : Int), 0) := by
  obtain ⟨h1, h2⟩ := spelt_val hf hb x K
  rw [Nat.mod_eq_of_lt (isLen_lt (by omega) hK)] at h2
  have hv : valR b (List.replicate k 48 ++ spelt f b x K) = (x : Int) := by rw [valR_append, val_zeros, h2]; simp
  rw [numR_val (by omega) _ ?_ ?_ (by rw [hv]; omega), hv]
  · intro e
    have := congrArg List.length e
    have := hK.1
    simp [spelt_length] at *
    omega
  · intro c hc
    rcases List.mem_append.1 hc with hc | hc
    · exact digs_zeros (by omega) k c hc
    · exact h1 c hc
theorem txt_spelt (b x K : Nat) : txt b x K = spelt sgn b x K := rfl
theorem padB_txt {x K : Nat} (hK : IsLen 10 x K) : padB (txt 10 x K) = false := by
  unfold padB
  rw [txt_length]
  by_cases h : 1 < K
  · obtain ⟨k, rfl⟩ : ∃ k, K = k + 1 := ⟨K - 1, by omega⟩
    rw [txt_succ]
    have h3 := hK.2.2.resolve_left (by omega)
    have h4 := hK.2.1
    rw [Nat.add_sub_cancel] at h3
    have hd : digAt 10 x k ≠ 0 := by
      unfold digAt
      rw [Nat.pow_succ, ← Nat.div_div_eq_div_mul] at h4
      omega
    have hl : digAt 10 x k < 10 := Nat.mod_lt _ (by omega)
    have : ∀ d : Fin 10, d.1 ≠ 0 → (sgn d.1 == 48) = false := by decide
    have := this ⟨_, hl⟩ hd
    simp [this]
  · simp [h]
theorem parseR_txt {x K : Nat} (hx : x < 18446744073709551616) (hK : IsLen 10 x K) : parseR (txt 10 x K) = ((x : Int), 0) := by
  unfold parseR
  rw [padB_txt hK]
  exact numR_spelt fair_sgn (.inl rfl) hx hK 0
theorem txt_ascii (x K : Nat) (j : Nat) (c : UInt8) (h : (txt 16 x K)[j]? = some c) : c.toNat < 128 := by
  have : c ∈ txt 16 x K := List.mem_of_getElem? h
  simp only [txt, upto, List.mem_reverse, List.mem_map] at this
  obtain ⟨k, _, rfl⟩ := this
  have h16 : digAt 16 x k < 16 := Nat.mod_lt _ (by omega)
  have : ∀ d : Fin 16, (sgn d.1).toNat < 128 := by decide
  exact this ⟨_, h16⟩
end Go.Proofs.YtlbiniibkbhghaaGreatDoor
