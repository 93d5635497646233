import Derived.Test.YtlcfpnegpihicaaGreatDoorPw6
import Derived.Test.YtlcfpnegpihicaaGreatDoorPw4
import Derived.Test.YtlcfpnegpihicaaGreatDoorPw8
import Derived.Test.YtlcfpnegpihicaaGreatDoorPw1
namespace Go.Proofs.YtlcfpnegpihicaaGreatDoor
open Go.RowKit

/-! ## The mathematics of parse: what fields do -/
/-- What is said: its kind (1 an event, 2 a number, 3 too long), the event, the number. -/
abbrev Sd := Int × Ev × Int
/-- A parser, but for its splitter and its caps: Type and Data under way, whether that is too long, the last id. -/
structure PrS where
  kind : List UInt8
  data : List UInt8
  long : Bool
  last : List UInt8
def prNew (id : List UInt8) : PrS := ⟨[], [], false, id⟩
/-- Data without its last LF. -/
def trimD (d : List UInt8) : List UInt8 := if d.getLast? = some 10 then d.dropLast else d
def putD (most : Nat) (s : PrS) (v : List UInt8) : PrS :=
  if s.long = true then s else if most + 1 < s.data.length then { s with long := true } else { s with data := s.data ++ v ++ [10] }
def evD (s : PrS) : Ev := (s.last, s.kind, trimD s.data)
def sumE (e : Ev) : Nat := e.1.length + e.2.1.length + e.2.2.length
def finD (most : Nat) (s : PrS) : Option Sd :=
  if s.long = true ∨ most < sumE (evD s) then some (3, ([], [], []), 0) else if s.data = [] then none else some (1, evD s, 0)
/-- What a field does, and what is said then. -/
def doP (most : Nat) (s : PrS) (f : FdT) : PrS × Option Sd :=
  if f.1 = 0 then ({ s with long := true }, none)
  else if f.1 = 1 then (prNew s.last, finD most s)
  else if f.1 = 3 then (putD most s f.2.2, none)
  else if f.1 = 4 then ({ s with kind := f.2.2 }, none)
  else if f.1 = 5 then ({ s with last := f.2.2 }, none)
  else if f.1 = 6 then (s, some (2, ([], [], []), (numR 10 f.2.2).1))
  else (s, none)
/-- What a line says, where that does something. -/
def saidL (l : List UInt8 × Bool) : Option FdT := if l.2 = true then some (0, [], []) else if countsF (fieldF l.1) = true then some (fieldF l.1) else none
def fieldsL (ls : List (List UInt8 × Bool)) : List FdT := ls.filterMap saidL
def stepsP (most : Nat) : PrS → List FdT → PrS × List Sd
  | s, [] => (s, [])
  | s, f :: r => ((stepsP most (doP most s f).1 r).1, (doP most s f).2.toList ++ (stepsP most (doP most s f).1 r).2)
theorem stepsP_append (most : Nat) : ∀ (a b : List FdT) (s : PrS), stepsP most s (a ++ b) = ((stepsP most (stepsP most s a).1 b).1, (stepsP most s a).2 ++ (stepsP most (stepsP most s a).1 b).2)
  | [], b, s => by simp [stepsP]
  | f :: r, b, s => by
    simp only [List.cons_append, stepsP]
    rw [stepsP_append most r b]
    simp [List.append_assoc]
/-! ## What is sound, cut at a byte below 128 -/
theorem snd_append {a b : List UInt8} (ha : SoundL a) (hb : SoundL b) : SoundL (a ++ b) := by
  refine along (P := fun a => SoundL a → SoundL (a ++ b)) (fun _ => hb) (fun l h0 ih hl => ?_) a ha
  obtain ⟨h1, h2⟩ := (sound_look h0).1 hl
  refine (sound_look (fun h => h0 (List.append_eq_nil_iff.1 h).1)).2 ?_
  rw [look_append b h0 (by omega)]
  refine ⟨h1, ?_⟩
  have hz := look_size h0
  rw [List.drop_append_of_le_length hz.2.2.1]
  exact ih h2
/-- A point below 128 is one byte; all bytes of any other one are from 128 on. -/
theorem pt_bytes {n : Nat} (h : isPt n) : (n < 128 ∧ ptB n = [u8 n]) ∨ (128 ≤ n ∧ ∀ c ∈ ptB n, 128 ≤ c.toNat) := by
  obtain ⟨h1, _⟩ := h
  have key : ∀ m, 128 ≤ m → m < 256 → 128 ≤ (u8 m).toNat := fun m hm hm2 => by rw [u8_toNat hm2]; exact hm
  by_cases hn : n < 128
  · exact .inl ⟨hn, by unfold ptB; rw [if_pos (by omega)]⟩
  · refine .inr ⟨by omega, fun c hc => ?_⟩
    unfold ptB at hc
    rw [if_neg (by omega)] at hc
    split at hc
    · have hc : c = u8 (192 + n / 64) ∨ c = u8 (128 + n % 64) := by simpa using hc
      rcases hc with rfl | rfl <;> exact key _ (by omega) (by omega)
    · split at hc
      · have hc : c = u8 (224 + n / 4096) ∨ c = u8 (128 + n / 64 % 64) ∨ c = u8 (128 + n % 64) := by simpa using hc
        rcases hc with rfl | rfl | rfl <;> exact key _ (by omega) (by omega)
      · have hc : c = u8 (240 + n / 262144) ∨ c = u8 (128 + n / 4096 % 64) ∨ c = u8 (128 + n / 64 % 64) ∨ c = u8 (128 + n % 64) := by simpa using hc
        rcases hc with rfl | rfl | rfl | rfl <;> exact key _ (by omega) (by omega)
theorem sound_at : ∀ l : List UInt8, SoundL l → ∀ (x r : List UInt8) (c : UInt8), l = x ++ c :: r → c.toNat < 128 → SoundL x ∧ SoundL r := by
  refine along (P := fun l => SoundL l → ∀ (x r : List UInt8) (c : UInt8), l = x ++ c :: r → c.toNat < 128 → SoundL x ∧ SoundL r) (fun _ x r c h => by simp at h) (fun l h0 ih hl x r c he hc => ?_)
  obtain ⟨h1, h2⟩ := (sound_look h0).1 hl
  obtain ⟨hp, hpt⟩ := whole_pt h1
  have hz := look_size h0
  have hcat : ptB (look l).point ++ l.drop (look l).size = l := by rw [← hp, List.take_append_drop]
  have hlen : (ptB (look l).point).length = (look l).size := by rw [← hp, List.length_take]; omega
  by_cases hx : x.length < (look l).size
  · have hmem : c ∈ ptB (look l).point := by
      rw [← hp, he]
      refine List.mem_iff_getElem?.2 ⟨x.length, ?_⟩
      rw [List.getElem?_take, if_pos (by rw [← he]; exact hx)]
      simp
    rcases pt_bytes hpt with ⟨_, hb⟩ | ⟨_, hb⟩
    · rw [hb] at hlen
      have h1s : (look l).size = 1 := by rw [← hlen]; rfl
      have hx0 : x = [] := List.eq_nil_of_length_eq_zero (by omega)
      subst hx0
      rw [h1s, he] at h2
      exact ⟨sound_nil, by simpa using h2⟩
    · exact absurd (hb c hmem) (by omega)
  · have hd : l.drop (look l).size = x.drop (look l).size ++ c :: r := by
      conv => lhs; rw [he]
      rw [List.drop_append_of_le_length (by rw [← he]; omega)]
      congr 2
      rw [← he]
    obtain ⟨h3, h4⟩ := ih h2 (x.drop (look l).size) r c hd hc
    refine ⟨?_, h4⟩
    have : x = ptB (look l).point ++ x.drop (look l).size := by
      have ht : x.take (look l).size = ptB (look l).point := by
        rw [← hp]
        conv => rhs; rw [he]
        rw [List.take_append_of_le_length (by rw [← he]; omega), ← he]
      rw [← ht, List.take_append_drop]
    rw [this]
    exact snd_append (pt_sound hpt) h3
end Go.Proofs.YtlcfpnegpihicaaGreatDoor

namespace Go.Proofs.YtlcfpnegpihicaaGreatDoor
open Go.RowKit

/-! ## What lines say is sound, and within bounds -/
/-- A line as a splitter tells it: sound, without ends, within the cap; one that is too long tells no text. -/
structure LineOk (line : Nat) (l : List UInt8 × Bool) : Prop where
  sd : SoundL l.1
  no : ∀ c ∈ l.1, c ≠ 13 ∧ c ≠ 10
  len : l.1.length ≤ line
theorem trim_pre {r : List UInt8} (h : SoundL r) : SoundL (Lib.trimPrefix r [32]) := by
  unfold Lib.trimPrefix
  split
  · rename_i hp
    cases r with
    | nil => simpa using h
    | cons b t =>
      have hb : b = 32 := by
        simp [Lib.hasPrefix, List.isPrefixOf] at hp
        exact hp.symm
      have := (sound_at _ h [] t b rfl (by rw [hb]; decide)).2
      simpa using this
  · exact h
theorem trim_mem {r : List UInt8} : ∀ c ∈ Lib.trimPrefix r [32], c ∈ r := by
  intro c hc
  unfold Lib.trimPrefix at hc
  split at hc
  · exact List.mem_of_mem_drop hc
  · exact hc
theorem trimP_len (r : List UInt8) : (Lib.trimPrefix r [32]).length ≤ r.length := by
  unfold Lib.trimPrefix
  split
  · simp
  · exact Nat.le_refl _
/-- The value of what a line says: sound, of the line's bytes. -/
theorem val_of (l : List UInt8) : (SoundL l → SoundL (fieldF l).2.2) ∧ (∀ c ∈ (fieldF l).2.2, c ∈ l) ∧ (fieldF l).2.2.length ≤ l.length := by
  by_cases h0 : l = []
  · subst h0
    exact ⟨fun _ => sound_nil, fun c hc => by simp [fieldF] at hc, Nat.le_refl _⟩
  · by_cases h1 : l.head? = some 58
    · obtain ⟨b, r, rfl⟩ : ∃ b r, l = b :: r := by cases l with
        | nil => exact absurd rfl h0
        | cons b r => exact ⟨b, r, rfl⟩
      obtain rfl : b = 58 := by simpa using h1
      rw [fieldF_comment]
      exact ⟨fun h => (sound_at _ h [] r 58 rfl (by decide)).2, fun c hc => by simp [hc], by simp⟩
    · by_cases h2 : 58 ∈ l
      · obtain ⟨a, r, ha, hn⟩ : ∃ a r, l = a ++ 58 :: r ∧ 58 ∉ a := by
          clear h0 h1
          induction l with
          | nil => simp at h2
          | cons b t ih =>
            by_cases hb : b = 58
            · exact ⟨[], t, by rw [hb]; rfl, by simp⟩
            · obtain ⟨a, r, h3, h4⟩ := ih ((List.mem_cons.1 h2).resolve_left fun e => hb e.symm)
              exact ⟨b :: a, r, by rw [h3]; rfl, by rw [List.mem_cons, not_or]; exact ⟨fun e => hb e.symm, h4⟩⟩
        have hk : l[a.length]? = some 58 := by rw [ha]; simp
        have ht : l.take a.length = a := by rw [ha]; simp
        have hd : l.drop (a.length + 1) = r := by rw [ha]; simp
        rw [fieldF_at h1 hk (by rw [ht]; exact hn), hd]
        refine ⟨fun h => trim_pre (sound_at _ h a r 58 ha (by decide)).2, fun c hc => ?_, ?_⟩
        · have := trim_mem c hc
          rw [ha]; simp [this]
        · have := trimP_len r
          show (Lib.trimPrefix r [32]).length ≤ _
          rw [ha, List.length_append, List.length_cons]
          omega
      · rw [fieldF_no h0 h2]
        exact ⟨fun _ => sound_nil, fun c hc => by simp at hc, by simp⟩
/-- What a field that lines say is: its value is sound, without ends, no longer than a line; an id has no byte 0. -/
structure FldOk (line : Nat) (f : FdT) : Prop where
  sd : SoundL f.2.2
  no : ∀ c ∈ f.2.2, c ≠ 13 ∧ c ≠ 10
  len : f.2.2.length ≤ line
  id : f.1 = 5 → 0 ∉ f.2.2
theorem said_ok {line : Nat} {l : List UInt8 × Bool} (h : LineOk line l) {f : FdT} (hf : saidL l = some f) : FldOk line f := by
  unfold saidL at hf
  split at hf
  · obtain rfl := Option.some.inj hf
    exact ⟨sound_nil, fun c hc => by simp at hc, Nat.zero_le _, fun _ => by simp⟩
  · split at hf
    · rename_i hc
      obtain rfl := Option.some.inj hf
      obtain ⟨h1, h2, h3⟩ := val_of l.1
      refine ⟨h1 h.sd, fun c hc => h.no c (h2 c hc), Nat.le_trans h3 h.len, fun h5 hm => ?_⟩
      unfold countsF at hc
      rw [if_pos h5, hasNought_yes hm] at hc
      simp at hc
    · cases hf
/-- How a parser stands: all its texts are sound, and within bounds. -/
structure PrS.ok (most line : Nat) (s : PrS) : Prop where
  k1 : SoundL s.kind
  k2 : ∀ c ∈ s.kind, c ≠ 13 ∧ c ≠ 10
  k3 : s.kind.length ≤ line
  d1 : s.data = [] ∨ ∃ d, s.data = d ++ [10] ∧ SoundL d ∧ 13 ∉ d
  d2 : s.data.length ≤ most + 1 + line + 1
  i1 : SoundL s.last
  i2 : ∀ c ∈ s.last, c ≠ 13 ∧ c ≠ 10 ∧ c ≠ 0
theorem prNew_ok {most line : Nat} {id : List UInt8} (h1 : SoundL id) (h2 : ∀ c ∈ id, c ≠ 13 ∧ c ≠ 10 ∧ c ≠ 0) : (prNew id).ok most line :=
  ⟨sound_nil, fun c hc => by simp [prNew] at hc, Nat.zero_le _, .inl rfl, Nat.zero_le _, h1, h2⟩
theorem lf_sound : SoundL [10] := by decide
theorem putD_ok {most line : Nat} {s : PrS} (h : s.ok most line) {v : List UInt8} (h1 : SoundL v) (h2 : ∀ c ∈ v, c ≠ 13 ∧ c ≠ 10) (h3 : v.length ≤ line) : (putD most s v).ok most line := by
  unfold putD
  split
  · exact h
  · split
    · exact ⟨h.k1, h.k2, h.k3, h.d1, h.d2, h.i1, h.i2⟩
    · refine ⟨h.k1, h.k2, h.k3, .inr ⟨s.data ++ v, rfl, ?_, ?_⟩, ?_, h.i1, h.i2⟩
      · refine snd_append ?_ h1
        rcases h.d1 with hd | ⟨d, hd, hs, _⟩
        · rw [hd]; exact sound_nil
        · rw [hd]; exact snd_append hs lf_sound
      · rw [List.mem_append, not_or]
        refine ⟨?_, fun hm => (h2 13 hm).1 rfl⟩
        rcases h.d1 with hd | ⟨d, hd, _, hn⟩
        · rw [hd]; simp
        · rw [hd, List.mem_append, not_or]; exact ⟨hn, by decide⟩
      · simp only [List.length_append, List.length_singleton]
        omega
theorem doP_ok {most line : Nat} {s : PrS} (h : s.ok most line) {f : FdT} (hf : FldOk line f) : (doP most s f).1.ok most line := by
  unfold doP
  split
  · exact ⟨h.k1, h.k2, h.k3, h.d1, h.d2, h.i1, h.i2⟩
  · split
    · exact prNew_ok h.i1 h.i2
    · split
      · exact putD_ok h hf.sd hf.no hf.len
      · split
        · exact ⟨hf.sd, hf.no, hf.len, h.d1, h.d2, h.i1, h.i2⟩
        · split
          · rename_i h5
            exact ⟨h.k1, h.k2, h.k3, h.d1, h.d2, hf.sd, fun c hc => ⟨(hf.no c hc).1, (hf.no c hc).2, fun e => hf.id h5 (e ▸ hc)⟩⟩
          · split <;> exact h
theorem stepsP_ok {most line : Nat} : ∀ (fs : List FdT) (s : PrS), s.ok most line → (∀ f ∈ fs, FldOk line f) → (stepsP most s fs).1.ok most line
  | [], _, h, _ => h
  | f :: r, s, h, hf => stepsP_ok r _ (doP_ok h (hf f (by simp))) (fun g hg => hf g (by simp [hg]))
/-- No more waits than the cap, twice the line's, and 2. -/
theorem PrS.ok.waits {most line : Nat} {s : PrS} (h : s.ok most line) : s.kind.length + s.data.length ≤ most + 2 * line + 2 := by
  have := h.k3
  have := h.d2
  omega
theorem trimD_snoc (d : List UInt8) : trimD (d ++ [10]) = d := by unfold trimD; simp
end Go.Proofs.YtlcfpnegpihicaaGreatDoor

namespace Go.Proofs.YtlcfpnegpihicaaGreatDoor
open Go.RowKit

/-! ## The document's parser, line by line -/
structure RfS where
  id : List UInt8
  type : List UInt8
  data : List UInt8
  some : Bool
  long : Bool
def rfNew (id : List UInt8) : RfS := ⟨id, [], [], false, false⟩
def rfEv (r : RfS) : Ev := (r.id, r.type, if r.some = true ∧ r.long = false then r.data.take (r.data.length - 1) else [])
def rfEnds (most : Nat) (r : RfS) : RfS × Option Sd :=
  (rfNew r.id, if r.long = true ∨ most < sumE (rfEv r) then .some (3, ([], [], []), 0) else if r.some = true then .some (1, rfEv r, 0) else none)
def rfLine (most : Nat) (r : RfS) (l : List UInt8 × Bool) : RfS × Option Sd :=
  if l.2 = true then ({ r with long := true }, none)
  else if countsF (fieldF l.1) = false then (r, none)
  else if (fieldF l.1).1 = 1 then rfEnds most r
  else if (fieldF l.1).1 = 3 then
    (if r.long = true ∨ most + 1 < r.data.length then { r with some := true, long := true } else { r with some := true, data := r.data ++ (fieldF l.1).2.2 ++ [10] }, none)
  else if (fieldF l.1).1 = 4 then ({ r with type := (fieldF l.1).2.2 }, none)
  else if (fieldF l.1).1 = 5 then ({ r with id := (fieldF l.1).2.2 }, none)
  else if (fieldF l.1).1 = 6 then (r, .some (2, ([], [], []), (retryF (fieldF l.1)).1))
  else (r, none)
def rfLines (most : Nat) : RfS → List (List UInt8 × Bool) → RfS × List Sd
  | r, [] => (r, [])
  | r, l :: ls => ((rfLines most (rfLine most r l).1 ls).1, (rfLine most r l).2.toList ++ (rfLines most (rfLine most r l).1 ls).2)
/-- Both stand alike. -/
structure RelP (s : PrS) (r : RfS) : Prop where
  id : r.id = s.last
  type : r.type = s.kind
  data : r.data = s.data
  long : r.long = s.long
  some : s.long = false → (r.some = true ↔ s.data ≠ [])
theorem relP_new (id : List UInt8) : RelP (prNew id) (rfNew id) := ⟨rfl, rfl, rfl, rfl, fun _ => by simp [prNew, rfNew]⟩
def lineP (most : Nat) (s : PrS) (l : List UInt8 × Bool) : PrS × Option Sd := match saidL l with
  | none => (s, none)
  | some f => doP most s f
theorem rel_ev {most line : Nat} {s : PrS} {r : RfS} (h : RelP s r) (ho : s.ok most line) (hl : s.long = false) : rfEv r = evD s := by
  unfold rfEv evD
  rw [h.id, h.type, h.data, h.long, hl]
  by_cases hd : s.data = []
  · have hs : ¬ r.some = true := fun e => (h.some hl).1 e hd
    rw [if_neg (fun e => hs e.1), hd]
    rfl
  · rw [if_pos ⟨(h.some hl).2 hd, rfl⟩]
    obtain ⟨d, hde, _⟩ := ho.d1.resolve_left hd
    rw [hde, trimD_snoc]
    simp
theorem rel_ends {most line : Nat} {s : PrS} {r : RfS} (h : RelP s r) (ho : s.ok most line) : RelP (prNew s.last) (rfEnds most r).1 ∧ (rfEnds most r).2 = finD most s := by
  refine ⟨by unfold rfEnds; rw [h.id]; exact relP_new _, ?_⟩
  unfold rfEnds finD
  simp only
  rw [h.long]
  by_cases hl : s.long = true
  · rw [if_pos (.inl hl), if_pos (.inl hl)]
  · have hl' : s.long = false := by simpa using hl
    rw [rel_ev h ho hl']
    by_cases hm : most < sumE (evD s)
    · rw [if_pos (.inr hm), if_pos (.inr hm)]
    · have hn : ¬ (s.long = true ∨ most < sumE (evD s)) := fun e => e.elim hl hm
      rw [if_neg hn, if_neg hn]
      by_cases hd : s.data = []
      · rw [if_pos hd, if_neg (fun e => (h.some hl').1 e hd)]
      · rw [if_neg hd, if_pos ((h.some hl').2 hd)]
theorem rel_line {most line : Nat} {s : PrS} {r : RfS} (h : RelP s r) (ho : s.ok most line) (l : List UInt8 × Bool) : RelP (lineP most s l).1 (rfLine most r l).1 ∧ (rfLine most r l).2 = (lineP most s l).2 := by
  unfold lineP saidL rfLine
  by_cases hl : l.2 = true
  · rw [if_pos hl, if_pos hl]
    exact ⟨⟨h.id, h.type, h.data, rfl, fun e => by simp [doP] at e⟩, rfl⟩
  · rw [if_neg hl, if_neg hl]
    by_cases hc : countsF (fieldF l.1) = true
    · rw [if_pos hc, if_neg (show ¬ countsF (fieldF l.1) = false from by rw [hc]; decide)]
      have hsay : sayF (fieldF l.1) = true := sayF_fieldF l.1
      generalize fieldF l.1 = f at hc hsay
      simp only
      have h0 : f.1 ≠ 0 := by
        intro e
        unfold sayF at hsay
        rw [e] at hsay
        simp at hsay
        have := (kindK_range f.2.1).1
        omega
      unfold doP
      rw [if_neg h0]
      by_cases h1 : f.1 = 1
      · rw [if_pos h1, if_pos h1]
        exact rel_ends h ho
      · rw [if_neg h1, if_neg h1]
        by_cases h3 : f.1 = 3
        · rw [if_pos h3, if_pos h3]
          refine ⟨?_, rfl⟩
          simp only
          unfold putD
          rw [h.long, h.data]
          by_cases hlg : s.long = true
          · rw [if_pos hlg, if_pos (Or.inl hlg)]
            exact ⟨h.id, h.type, rfl, hlg.symm, fun e => by rw [hlg] at e; cases e⟩
          · by_cases hm : most + 1 < s.data.length
            · rw [if_neg hlg, if_pos hm, if_pos (Or.inr hm)]
              exact ⟨h.id, h.type, rfl, rfl, fun e => by simp at e⟩
            · rw [if_neg hlg, if_neg hm, if_neg (fun e => Or.elim e hlg hm)]
              exact ⟨h.id, h.type, rfl, rfl, fun _ => by simp⟩
        · rw [if_neg h3, if_neg h3]
          by_cases h4 : f.1 = 4
          · rw [if_pos h4, if_pos h4]
            exact ⟨⟨h.id, rfl, h.data, h.long, h.some⟩, rfl⟩
          · rw [if_neg h4, if_neg h4]
            by_cases h5 : f.1 = 5
            · rw [if_pos h5, if_pos h5]
              exact ⟨⟨rfl, h.type, h.data, h.long, h.some⟩, rfl⟩
            · rw [if_neg h5, if_neg h5]
              by_cases h6 : f.1 = 6
              · rw [if_pos h6, if_pos h6]
                refine ⟨h, ?_⟩
                unfold retryF
                rw [if_pos ⟨hsay, h6⟩]
              · rw [if_neg h6, if_neg h6]
                exact ⟨h, rfl⟩
    · have hc' : countsF (fieldF l.1) = false := by simpa using hc
      rw [if_pos hc', if_neg hc]
      exact ⟨h, rfl⟩
theorem lineP_ok {most line : Nat} {s : PrS} (h : s.ok most line) {l : List UInt8 × Bool} (hl : LineOk line l) : (lineP most s l).1.ok most line := by
  unfold lineP
  cases hs : saidL l with
  | none => exact h
  | some f => exact doP_ok h (said_ok hl hs)
theorem lines_steps (most : Nat) : ∀ (ls : List (List UInt8 × Bool)) (s : PrS) (l : List UInt8 × Bool), stepsP most s (fieldsL (l :: ls)) = ((stepsP most (lineP most s l).1 (fieldsL ls)).1, (lineP most s l).2.toList ++ (stepsP most (lineP most s l).1 (fieldsL ls)).2) := by
  intro ls s l
  unfold lineP fieldsL
  rw [List.filterMap_cons]
  cases hs : saidL l with
  | none => simp
  | some f => simp [stepsP]
/-- What the document's parser says of lines is what fields do. -/
theorem rel_lines {most line : Nat} : ∀ (ls : List (List UInt8 × Bool)) (s : PrS) (r : RfS), RelP s r → s.ok most line → (∀ l ∈ ls, LineOk line l) → RelP (stepsP most s (fieldsL ls)).1 (rfLines most r ls).1 ∧ (rfLines most r ls).2 = (stepsP most s (fieldsL ls)).2
  | [], s, r, h, _, _ => ⟨h, rfl⟩
  | l :: ls, s, r, h, ho, hl => by
    obtain ⟨h1, h2⟩ := rel_line h ho l
    obtain ⟨h3, h4⟩ := rel_lines ls _ _ h1 (lineP_ok ho (hl l (by simp))) (fun x hx => hl x (by simp [hx]))
    rw [lines_steps]
    unfold rfLines
    exact ⟨h3, by rw [h4, h2]⟩
theorem rfLines_append (most : Nat) : ∀ (a b : List (List UInt8 × Bool)) (r : RfS), rfLines most r (a ++ b) = ((rfLines most (rfLines most r a).1 b).1, (rfLines most r a).2 ++ (rfLines most (rfLines most r a).1 b).2)
  | [], b, r => by simp [rfLines]
  | l :: ls, b, r => by
    simp only [List.cons_append, rfLines]
    rw [rfLines_append most ls b]
    simp [List.append_assoc]
/-- Both waits are alike. -/
theorem rel_waits {s : PrS} {r : RfS} (h : RelP s r) : r.type.length + r.data.length = s.kind.length + s.data.length := by rw [h.type, h.data]
end Go.Proofs.YtlcfpnegpihicaaGreatDoor

namespace Go.Proofs.YtlcfpnegpihicaaGreatDoor
open Go.RowKit Go.Maps

/-! ## What fields do, in a map -/
theorem keysF : Keyed Tryz.prog 102 := int_keyed Tryz.underlying102
/-- How what the map holds is read: a function by its number, none as false. -/
noncomputable def fElem (v : Value) : Option (DataW Unit × List MemPlace) := match v with
  | .func (.func k) f c => if f.size = 0 ∧ c.size = 0 then some (.lit (.int .i64 (k : Int)), []) else none
  | _ => some (.lit (.bool false), [])
theorem fElem_inv {v : Value} {k : Nat} {ps : List MemPlace} (h : fElem v = some (.lit (.int .i64 (k : Int)), ps)) : v = .func (.func k) #[] #[] := by
  unfold fElem at h
  split at h
  · split at h
    · rename_i k' f c hs
      injection h with h
      injection h with h _
      injection h with h
      injection h with _ h
      have : k' = k := Int.ofNat.inj h
      rw [this, Array.eq_empty_of_size_eq_zero hs.1, Array.eq_empty_of_size_eq_zero hs.2]
    · cases h
  · simp at h
noncomputable def DeedsD : DataW Unit := (((((((DataW.map []).put (.int .i64 0) (.lit (.int .i64 75))).put (.int .i64 1) (.lit (.int .i64 76))).put (.int .i64 3) (.lit (.int .i64 77))).put (.int .i64 4) (.lit (.int .i64 78))).put (.int .i64 5) (.lit (.int .i64 79))).put (.int .i64 6) (.lit (.int .i64 80)))
set_option maxRecDepth 100000 in
theorem deeds_any (w : World) : Calls Tryz.prog 60 #[] w fun e w' => ∃ b, e = .returned (.map (some b)) ∧ w'.ownsMap Tryz.prog 102 fElem b 6 DeedsD ∧ Below w.heap.size w w' := by
  have hmk := run_makeMap (P := Tryz.prog) 135 w
  have o0 := World.ownsMap_made w Tryz.prog 102 fElem
  obtain ⟨w1, h1, o1, g1⟩ := o0.update keysF Tryz.underlying135 (by decide) (key := .int .i64 0) (val := .func (.func 75) #[] #[]) (kl := .int .i64 0) (keyOf_int_mk Tryz.underlying102 (by decide)) rfl
  obtain ⟨w2, h2, o2, g2⟩ := o1.update keysF Tryz.underlying135 (by decide) (key := .int .i64 1) (val := .func (.func 76) #[] #[]) (kl := .int .i64 1) (keyOf_int_mk Tryz.underlying102 (by decide)) rfl
  obtain ⟨w3, h3, o3, g3⟩ := o2.update keysF Tryz.underlying135 (by decide) (key := .int .i64 3) (val := .func (.func 77) #[] #[]) (kl := .int .i64 3) (keyOf_int_mk Tryz.underlying102 (by decide)) rfl
  obtain ⟨w4, h4, o4, g4⟩ := o3.update keysF Tryz.underlying135 (by decide) (key := .int .i64 4) (val := .func (.func 78) #[] #[]) (kl := .int .i64 4) (keyOf_int_mk Tryz.underlying102 (by decide)) rfl
  obtain ⟨w5, h5, o5, g5⟩ := o4.update keysF Tryz.underlying135 (by decide) (key := .int .i64 5) (val := .func (.func 79) #[] #[]) (kl := .int .i64 5) (keyOf_int_mk Tryz.underlying102 (by decide)) rfl
  obtain ⟨w6, h6, o6, g6⟩ := o5.update keysF Tryz.underlying135 (by decide) (key := .int .i64 6) (val := .func (.func 80) #[] #[]) (kl := .int .i64 6) (keyOf_int_mk Tryz.underlying102 (by decide)) rfl
  have hb0 : Below w.heap.size w (w.alloc (.map #[] 0)) := (Below.refl _ _).alloc (Nat.le_refl _) _
  have hw0 : w.heap.size < (w.alloc (.map #[] 0)).heap.size := by simp
  have b1 := hb0.grown g1 (by omega) (fun g e => by have := Option.some.inj e; omega)
  have b2 := b1.grown g2 (by have := g1.size; omega) (fun g e => by have := Option.some.inj e; omega)
  have b3 := b2.grown g3 (by have := g1.size; have := g2.size; omega) (fun g e => by have := Option.some.inj e; omega)
  have b4 := b3.grown g4 (by have := g1.size; have := g2.size; have := g3.size; omega) (fun g e => by have := Option.some.inj e; omega)
  have b5 := b4.grown g5 (by have := g1.size; have := g2.size; have := g3.size; have := g4.size; omega) (fun g e => by have := Option.some.inj e; omega)
  have b6 := Lib.hid (b5.grown g6 (by have := g1.size; have := g2.size; have := g3.size; have := g4.size; have := g5.size; omega) (fun g e => by have := Option.some.inj e; omega))
  have o6' := Lib.hid o6
  clear o0 o1 o2 o3 o4 o5 o6 g1 g2 g3 g4 g5 g6 b1 b2 b3 b4 b5 hb0 hw0
  go_enter Tryz.func60, Tryz.ntmps60
  go_wp2
  go_ret
  exact ⟨_, rfl, o6'.out, b6.out⟩
theorem zeroF (W : World) : (zeroValue 133).run Tryz.prog W = .ok Value.nilFunc W := by kernel_rfl
theorem deedsD_no (k : Int) (h : k = 2 ∨ k = 7) : Maps.has DeedsD (.int .i64 k) = false := by
  rcases h with rfl | rfl <;> rfl
end Go.Proofs.YtlcfpnegpihicaaGreatDoor

namespace Go.Proofs.YtlcfpnegpihicaaGreatDoor

/-! ## Lines of a text: mathematics -/
/-- What came of a line whose end has not come, whether it is too long, and whether a CR came last. -/
structure LSt where
  bytes : List UInt8
  long : Bool
  half : Bool
/-- Bytes that are put to a line under way. -/
def addB (most : Nat) (u : List UInt8) (long : Bool) (b : List UInt8) : List UInt8 × Bool :=
  if long = true ∨ most < u.length + b.length then ([], true) else (u ++ b, false)
/-- One byte comes. -/
def stepL (most : Nat) (s : LSt) (c : UInt8) : List (List UInt8 × Bool) × LSt :=
  if s.half = true ∧ c = 10 then ([], ⟨s.bytes, s.long, false⟩)
  else if c = 13 ∨ c = 10 then ([(s.bytes, s.long)], ⟨[], false, decide (c = 13)⟩)
  else ([], ⟨(addB most s.bytes s.long [c]).1, (addB most s.bytes s.long [c]).2, false⟩)
/-- A text comes: the lines that end with it, and how it stands. -/
def runL (most : Nat) : LSt → List UInt8 → List (List UInt8 × Bool) × LSt
  | s, [] => ([], s)
  | s, c :: r => ((stepL most s c).1 ++ (runL most (stepL most s c).2 r).1, (runL most (stepL most s c).2 r).2)
theorem runL_append (most : Nat) : ∀ (a b : List UInt8) (s : LSt), runL most s (a ++ b) = ((runL most s a).1 ++ (runL most (runL most s a).2 b).1, (runL most (runL most s a).2 b).2)
  | [], b, s => by simp [runL]
  | c :: r, b, s => by
    have ih := runL_append most r b (stepL most s c).2
    simp only [List.cons_append, runL, ih, List.append_assoc]
/-- What holds of every state. -/
def LSt.ok (most : Nat) (s : LSt) : Prop := s.bytes.length ≤ most ∧ (s.long = true → s.bytes = [])
theorem addB_ok {most : Nat} {u : List UInt8} {long : Bool} {b : List UInt8} : (addB most u long b).1.length ≤ most ∧ ((addB most u long b).2 = true → (addB most u long b).1 = []) := by
  unfold addB
  split
  · exact ⟨Nat.zero_le _, fun _ => rfl⟩
  · rename_i h
    refine ⟨?_, fun h => by simp at h⟩
    rw [List.length_append]
    omega
theorem stepL_ok {most : Nat} {s : LSt} (h : s.ok most) (c : UInt8) : (stepL most s c).2.ok most := by
  unfold stepL
  split
  · exact h
  · split
    · exact ⟨Nat.zero_le _, fun _ => rfl⟩
    · exact addB_ok
theorem runL_ok {most : Nat} : ∀ (a : List UInt8) (s : LSt), s.ok most → (runL most s a).2.ok most
  | [], _, h => h
  | _ :: r, _, h => runL_ok r _ (stepL_ok h _)
theorem addB_nil {most : Nat} {s : LSt} (h : s.ok most) : addB most s.bytes s.long [] = (s.bytes, s.long) := by
  unfold addB
  obtain ⟨h1, h2⟩ := h
  cases hl : s.long with
  | true => rw [if_pos (.inl rfl), h2 hl]
  | false => rw [if_neg (by simp; exact h1), List.append_nil]
theorem addB_add {most : Nat} {u : List UInt8} {long : Bool} (a b : List UInt8) : addB most (addB most u long a).1 (addB most u long a).2 b = addB most u long (a ++ b) := by
  unfold addB
  by_cases h : long = true ∨ most < u.length + a.length
  · rw [if_pos h, if_pos (.inl rfl), if_pos]
    rcases h with h | h
    · exact .inl h
    · right; rw [List.length_append]; omega
  · rw [if_neg h]
    by_cases h2 : most < u.length + (a ++ b).length
    · rw [if_pos (.inr (by rw [List.length_append] at h2 ⊢; omega)), if_pos (.inr h2)]
    · rw [if_neg, if_neg]
      · rw [List.append_assoc]
      · intro h3
        rcases h3 with h3 | h3
        · exact h (.inl h3)
        · exact h2 h3
      · intro h3
        rcases h3 with h3 | h3
        · simp at h3
        · rw [List.length_append] at h2 h3; omega
/-- No byte of these ends a line. -/
def noEnd (b : List UInt8) : Prop := ∀ c ∈ b, c ≠ 13 ∧ c ≠ 10
theorem runL_plain {most : Nat} : ∀ (b : List UInt8) (s : LSt), s.ok most → noEnd b → b ≠ [] → runL most s b = ([], ⟨(addB most s.bytes s.long b).1, (addB most s.bytes s.long b).2, false⟩)
  | [], _, _, _, h0 => absurd rfl h0
  | c :: r, s, h, hb, _ => by
    obtain ⟨h13, h10⟩ := hb c List.mem_cons_self
    have hs : stepL most s c = ([], ⟨(addB most s.bytes s.long [c]).1, (addB most s.bytes s.long [c]).2, false⟩) := by
      unfold stepL
      rw [if_neg (fun h => h10 h.2), if_neg (fun h => h.elim h13 h10)]
    simp only [runL, hs, List.nil_append]
    by_cases hr : r = []
    · subst hr; simp [runL]
    · have ih := runL_plain r ⟨(addB most s.bytes s.long [c]).1, (addB most s.bytes s.long [c]).2, false⟩ addB_ok (fun d hd => hb d (List.mem_cons_of_mem _ hd)) hr
      rw [ih]
      simp only [addB_add, List.singleton_append]
/-- What Splitter.next does with a text that is not empty: no more comes than up to a line's end. -/
def skipLF (s : LSt) (t : List UInt8) : List UInt8 := if s.half = true ∧ t.head? = some 10 then t.drop 1 else t
def firstEnd (t : List UInt8) : Nat := t.findIdx fun c => c == 13 || c == 10
theorem firstEnd_le (t : List UInt8) : firstEnd t ≤ t.length := List.findIdx_le_length
theorem firstEnd_plain (t : List UInt8) : noEnd (t.take (firstEnd t)) := by
  intro c hc
  obtain ⟨i, hi, he⟩ := List.getElem_of_mem hc
  rw [List.length_take] at hi
  rw [List.getElem_take] at he
  have := List.not_of_lt_findIdx (p := fun c : UInt8 => c == 13 || c == 10) (xs := t) (i := i) (by unfold firstEnd at hi; omega)
  rw [he] at this
  simp at this
  exact this
theorem runL_skip {most : Nat} (s : LSt) (t : List UInt8) (h0 : t ≠ []) : runL most s t = runL most ⟨s.bytes, s.long, false⟩ (skipLF s t) := by
  cases t with
  | nil => exact absurd rfl h0
  | cons c r =>
    unfold skipLF
    by_cases h : s.half = true ∧ c = 10
    · rw [if_pos (by simpa using h)]
      simp [runL, stepL, h]
    · rw [if_neg (by simpa using h)]
      simp only [runL]
      have : stepL most s c = stepL most ⟨s.bytes, s.long, false⟩ c := by
        have e2 : ¬ ((⟨s.bytes, s.long, false⟩ : LSt).half = true ∧ c = 10) := by simp
        unfold stepL
        rw [if_neg h, if_neg e2]
      rw [this]
theorem runL_next_end {most : Nat} (s : LSt) (h : s.ok most) (t : List UInt8) (h0 : t ≠ []) (he : firstEnd (skipLF s t) = (skipLF s t).length) :
    runL most s t = ([], ⟨(addB most s.bytes s.long (skipLF s t)).1, (addB most s.bytes s.long (skipLF s t)).2, false⟩) := by
  rw [runL_skip s t h0]
  have hp := firstEnd_plain (skipLF s t)
  rw [he, List.take_length] at hp
  by_cases hn : skipLF s t = []
  · rw [hn, addB_nil h]; rfl
  · exact runL_plain _ _ h hp hn
theorem runL_next_line {most : Nat} (s : LSt) (h : s.ok most) (t : List UInt8) (h0 : t ≠ []) (e : Nat) (he : firstEnd (skipLF s t) = e) (hl : e < (skipLF s t).length) :
    runL most s t = ((addB most s.bytes s.long ((skipLF s t).take e)) :: (runL most ⟨[], false, decide ((skipLF s t)[e] = 13)⟩ ((skipLF s t).drop (e + 1))).1, (runL most ⟨[], false, decide ((skipLF s t)[e] = 13)⟩ ((skipLF s t).drop (e + 1))).2) := by
  rw [runL_skip s t h0]
  generalize skipLF s t = t' at he hl ⊢
  have hp := firstEnd_plain t'
  rw [he] at hp
  have hc : t'[e] = 13 ∨ t'[e] = 10 := by
    have := List.findIdx_getElem (p := fun c : UInt8 => c == 13 || c == 10) (xs := t') (w := by unfold firstEnd at he; omega)
    unfold firstEnd at he
    simp only [he] at this
    simpa using this
  have hd : t' = t'.take e ++ (t'[e] :: t'.drop (e + 1)) := by rw [← List.drop_eq_getElem_cons hl, List.take_append_drop]
  have hplain : runL most ⟨s.bytes, s.long, false⟩ (t'.take e) = ([], ⟨(addB most s.bytes s.long (t'.take e)).1, (addB most s.bytes s.long (t'.take e)).2, false⟩) := by
    by_cases hn : t'.take e = []
    · rw [hn, addB_nil h]; rfl
    · exact runL_plain _ ⟨s.bytes, s.long, false⟩ h hp hn
  have hst : stepL most ⟨(addB most s.bytes s.long (t'.take e)).1, (addB most s.bytes s.long (t'.take e)).2, false⟩ t'[e] = ([addB most s.bytes s.long (t'.take e)], ⟨[], false, decide (t'[e] = 13)⟩) := by
    unfold stepL
    rw [if_neg (by simp), if_pos hc]
  conv => lhs; rw [hd]
  rw [runL_append, hplain]
  simp only [runL, hst, List.nil_append, List.singleton_append]
end Go.Proofs.YtlcfpnegpihicaaGreatDoor
