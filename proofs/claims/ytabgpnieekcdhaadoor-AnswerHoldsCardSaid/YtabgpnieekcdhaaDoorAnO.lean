import Derived.Test.YtabgpnieekcdhaaDoorAnA
import Derived.Test.YtabgpnieekcdhaaDoorRrF
import Derived.Test.YtabgpnieekcdhaaDoorTkG
namespace Go.Proofs.YtabgpnieekcdhaaDoor
open Go.RowKit Go.Shelf
attribute [local go_sem] Oper.semAt_some

/-! ## The document's reader of heads (layer 10), where nothing is wrong: mathematics, and a byte that comes -/
/-- How it stands. -/
structure Hs where
  first : List UInt8
  fields : List PairL
  line : List UInt8
  n : Nat
  cr : Bool
  done : Bool
/-- What the end of a line does, where nothing is wrong. -/
inductive Ends : Hs → Hs → Prop
  | last (s : Hs) : s.line = [] → s.first ≠ [] → Ends s { s with line := [], cr := false, done := true }
  | head (s : Hs) (b : UInt8) (r : List UInt8) : s.line = b :: r → s.first = [] → b ≠ 9 → b ≠ 32 → Ends s { s with first := s.line, line := [], cr := false }
  | field (s : Hs) (a z : List UInt8) : s.line = a ++ 58 :: z → s.first ≠ [] → s.fields.length < 256 → 58 ∉ a → tokenL a = true → Ends s { s with fields := s.fields ++ [(lowerL a, trimL z)], line := [], cr := false }
/-- Bytes that come, where nothing is wrong. -/
inductive Run : Hs → List UInt8 → Hs → Prop
  | nil (s : Hs) : Run s [] s
  | put (s t : Hs) (b : UInt8) (r : List UInt8) : valB b = true → s.cr = false → s.done = false → s.line.length < 8192 → s.n + 1 ≤ 65536 → Run { s with line := s.line ++ [b], n := s.n + 1 } r t → Run s (b :: r) t
  | cr (s t : Hs) (r : List UInt8) : s.cr = false → s.done = false → s.n + 1 ≤ 65536 → Run { s with cr := true, n := s.n + 1 } r t → Run s (13 :: r) t
  | lf (s u t : Hs) (r : List UInt8) : s.cr = true → s.done = false → s.n + 1 ≤ 65536 → Ends { s with n := s.n + 1 } u → Run u r t → Run s (10 :: r) t
theorem Run.line : ∀ (L : List UInt8) (s t : Hs) (r : List UInt8), L.all valB = true → s.cr = false → s.done = false → s.line.length + L.length ≤ 8192 → s.n + L.length ≤ 65536 → Run { s with line := s.line ++ L, n := s.n + L.length } r t → Run s (L ++ r) t
  | [], s, t, r, _, _, _, _, _, h => by simpa using h
  | b :: L, s, t, r, hv, hc, hd, hl, hn, h => by
    simp only [List.all_cons, Bool.and_eq_true] at hv
    simp only [List.length_cons] at hl hn
    refine Run.put s t b (L ++ r) hv.1 hc hd (by omega) (by omega) (Run.line L _ t r hv.2 hc hd ?_ ?_ ?_)
    · simp only [List.length_append, List.length_cons, List.length_nil]; omega
    · simp only; omega
    · simp only [List.append_assoc, List.cons_append, List.nil_append]
      rw [show s.n + 1 + L.length = s.n + (b :: L).length by simp; omega]
      exact h
theorem Run.crlf {s u t : Hs} {r : List UInt8} (hc : s.cr = false) (hd : s.done = false) (hn : s.n + 2 ≤ 65536) (he : Ends { s with n := s.n + 2, cr := true } u) (h : Run u r t) : Run s (13 :: 10 :: r) t :=
  Run.cr s t _ hc hd (by omega) (Run.lf _ u t r rfl hd (by simp only; omega) he h)
theorem tok_val {b : UInt8} (h : tokB b = true) : valB b = true ∧ b ≠ 58 := by
  have : ∀ n : Fin 256, tokB (UInt8.ofFin n) = true → valB (UInt8.ofFin n) = true ∧ UInt8.ofFin n ≠ 58 := by decide +kernel
  exact this b.toFin h
theorem trim_blank {s : List UInt8} (h : valueL s = true) : trimL (32 :: s) = s := by
  unfold valueL at h
  rw [Bool.and_eq_true] at h
  have h2 : trimL s = s := beq_iff_eq.1 h.2
  unfold trimL at h2 ⊢
  rw [dropL_yes s (by decide)]
  exact h2
/-- A field, as it is sent, is read back. -/
theorem Run.field {s t : Hs} {q : PairL} {r : List UInt8} (hq : Rr.fieldB q = true) (hl0 : s.line = []) (hf : s.first ≠ []) (hk : s.fields.length < 256) (hc : s.cr = false) (hd : s.done = false) (hl : q.1.length + q.2.length + 2 ≤ 8192) (hn : s.n + (An.fieldT q).length ≤ 65536)
    (h : Run { s with fields := s.fields ++ [q], n := s.n + (An.fieldT q).length } r t) : Run s (An.fieldT q ++ r) t := by
  unfold Rr.fieldB at hq
  rw [Bool.and_eq_true, Bool.and_eq_true] at hq
  obtain ⟨⟨ht, hlo⟩, hv⟩ := hq
  have ht2 := ht
  unfold tokenL at ht2
  rw [Bool.and_eq_true] at ht2
  have hall := List.all_eq_true.1 ht2.2
  have hv2 := hv
  unfold valueL at hv2
  rw [Bool.and_eq_true] at hv2
  have e : An.fieldT q ++ r = (q.1 ++ [58, 32] ++ q.2) ++ 13 :: 10 :: r := by simp [An.fieldT]
  have hle : (q.1 ++ [58, 32] ++ q.2).length = q.1.length + q.2.length + 2 := by simp; omega
  have hfl := An.fieldT_len q
  rw [e]
  refine Run.line _ s t _ ?_ hc hd (by rw [hle, hl0]; simpa using hl) (by rw [hle]; omega) ?_
  · rw [List.all_append, List.all_append, hv2.1, Bool.and_true, Bool.and_eq_true]
    exact ⟨List.all_eq_true.2 fun b hb => (tok_val (hall b hb)).1, by decide⟩
  · refine Run.crlf hc hd (by simp only [hle]; omega) (Ends.field _ q.1 (32 :: q.2) ?_ hf hk (fun hm => (tok_val (hall 58 hm)).2 rfl) ht) ?_
    · simp [hl0]
    · simp only
      rw [beq_iff_eq.1 hlo, trim_blank hv]
      rw [show s.n + (q.1 ++ ([58, 32] : List UInt8) ++ q.2).length + 2 = s.n + (An.fieldT q).length by rw [hle, hfl]; omega]
      have e2 : ({ first := s.first, fields := s.fields ++ [q], line := [], n := s.n + (An.fieldT q).length, cr := false, done := s.done } : Hs) = { s with fields := s.fields ++ [q], n := s.n + (An.fieldT q).length } := by
        cases s
        simp_all
      rw [e2]
      exact h
theorem Run.fields : ∀ (l : List PairL) (s t : Hs) (r : List UInt8), l.all Rr.fieldB = true → (∀ q ∈ l, q.1.length + q.2.length + 2 ≤ 8192) → s.line = [] → s.first ≠ [] → s.fields.length + l.length ≤ 256 → s.cr = false → s.done = false → s.n + (l.flatMap An.fieldT).length ≤ 65536 →
    Run { s with fields := s.fields ++ l, n := s.n + (l.flatMap An.fieldT).length } r t → Run s (l.flatMap An.fieldT ++ r) t
  | [], s, t, r, _, _, _, _, _, _, _, _, h => by simpa using h
  | q :: l, s, t, r, hq, hb, hl, hf, hk, hc, hd, hn, h => by
    simp only [List.all_cons, Bool.and_eq_true] at hq
    simp only [List.flatMap_cons, List.length_append] at hn
    simp only [List.length_cons] at hk
    rw [List.flatMap_cons, List.append_assoc]
    refine Run.field hq.1 hl hf (by omega) hc hd (hb q List.mem_cons_self) (by omega) ?_
    refine Run.fields l _ t r hq.2 (fun x hx => hb x (List.mem_cons_of_mem _ hx)) hl hf (by simp only [List.length_append, List.length_cons, List.length_nil]; omega) hc hd (by simp only; omega) ?_
    simp only [List.append_assoc, List.cons_append, List.nil_append]
    rw [show s.n + (An.fieldT q).length + (l.flatMap An.fieldT).length = s.n + ((q :: l).flatMap An.fieldT).length by simp; omega]
    exact h
/-- The bytes of a head that may be are read back as that head. -/
theorem Run.head {f : List UInt8} {l : List PairL} (hh : Rr.headB f l = true) (hv : f.all valB = true) (h9 : f.head? ≠ some 9) (hf : f.length ≤ 8192) (hl : l.length ≤ 256) (hb : ∀ q ∈ l, q.1.length + q.2.length + 2 ≤ 8192) (hn : (An.headT f l).length ≤ 65536) :
    Run ⟨[], [], [], 0, false, false⟩ (An.headT f l) ⟨f, l, [], (An.headT f l).length, false, true⟩ := by
  unfold Rr.headB at hh
  rw [Bool.and_eq_true, Bool.and_eq_true] at hh
  obtain ⟨⟨hbg, _⟩, hfl⟩ := hh
  have hN : (An.headT f l).length = f.length + 2 + (l.flatMap An.fieldT).length + 2 := by simp [An.headT, An.crlf]; omega
  have e : An.headT f l = f ++ 13 :: 10 :: (l.flatMap An.fieldT ++ 13 :: 10 :: []) := by simp [An.headT, An.crlf]
  rw [hN] at hn ⊢
  rw [e]
  cases f with
  | nil => cases hbg
  | cons b r =>
    have hb9 : b ≠ 9 := fun h => h9 (by rw [h]; rfl)
    have hb32 : b ≠ 32 := fun h => by subst h; simp [Rr.beginsB] at hbg
    refine Run.line (b :: r) _ _ _ hv rfl rfl (by simpa using hf) (by simp only; omega) ?_
    refine Run.crlf rfl rfl (by simp only; omega) (Ends.head _ b r (by simp) rfl hb9 hb32) ?_
    refine Run.fields l _ _ _ hfl hb rfl (by simp) (by simpa using hl) rfl rfl (by simp only; omega) ?_
    refine Run.crlf rfl rfl (by simp only; omega) (Ends.last _ rfl (by simp)) ?_
    have e2 : ∀ a : Nat, a = (b :: r).length + 2 + (l.flatMap An.fieldT).length + 2 → Run ⟨b :: r, l, [], a, false, true⟩ [] ⟨b :: r, l, [], (b :: r).length + 2 + (l.flatMap An.fieldT).length + 2, false, true⟩ := fun a h => by rw [h]; exact Run.nil _
    simpa using e2 _ (by simp)
end Go.Proofs.YtabgpnieekcdhaaDoor
namespace Go.Proofs.YtabgpnieekcdhaaDoor
open Go.RowKit
attribute [local go_sem] Oper.semAt_some

/-! ## The document's Get (layer 10), over a head's fields -/
/-- A head's value: its first line, its fields from an address on (names and values, as Prs of layer 11 keeps them). -/
def hdV (f : List UInt8) (A : Option Addr) (n c : Nat) : Value := .agg #[.string ⟨f.toArray⟩, .slice A n c]
def getL (name : List UInt8) : List UInt8 → Nat → List PairL → List UInt8 × Nat
  | s, n, [] => (s, n)
  | s, n, q :: r => if lowerL q.1 = lowerL name then getL name ((if 0 < n then s ++ [44, 32] else s) ++ q.2) (n + 1) r else getL name s n r
def FewH (l : List PairL) : Prop := l.length ≤ 1000 ∧ ∀ q ∈ l, q.1.length ≤ 100000 ∧ q.2.length ≤ 100000
set_option maxRecDepth 100000 in
set_option maxHeartbeats 4000000 in
theorem get10_any (f : List UInt8) (A : Option Addr) (c : Nat) (l : List PairL) (name : List UInt8) (w : World) (hl : FewH l) (hn : name.length ≤ 100000) (h1 : Prs w A l) : Calls Tryd.prog 23 #[hdV f A l.length c, .string ⟨name.toArray⟩] w fun e w' => e = .returned (.tuple #[.string ⟨(getL name [] 0 l).1.toArray⟩, .int .i64 ((getL name [] 0 l).2 : Int)]) ∧ Below w.heap.size w w' := by
  unfold hdV
  obtain ⟨hlm, hls⟩ := hl
  have hls' := Lib.hid hls
  have hk := Has.new w 53 #[.string ⟨f.toArray⟩, .slice A l.length c]
  have hal := Lib.hid ((Below.refl w.heap.size w).alloc (Nat.le_refl _) (.cells #[.string ⟨f.toArray⟩, .slice A l.length c] 53))
  have hz : (w.alloc (.cells #[.string ⟨f.toArray⟩, .slice A l.length c] 53)).heap.size = w.heap.size + 1 := by simp
  obtain ⟨w1, hw1⟩ : ∃ X, w.alloc (.cells #[.string ⟨f.toArray⟩, .slice A l.length c] 53) = X := ⟨_, rfl⟩
  rw [hw1] at hk hal hz
  have hw1' := Lib.hid hw1
  have hx1 := Lib.hid (h1.below hal.out)
  have hk' := Lib.hid hk
  have hz' := Lib.hid hz
  have hlmI : (l.length : Int) ≤ 1000 := by omega
  clear hw1 h1 hk hls hz
  have hlow := Lib.hid (fun (t : List UInt8) W (ht : t.length ≤ 1000000) => refLower_any t W ht)
  unfold StrR at hlow
  go_enter Tryd.func23, Tryd.ntmps23
  go_upto_region 1 with (fail)
  rw [hw1'.out]
  go_wp2
  go_loopw [6, 7, 8] (fun s n x W => ∃ (i n' : Nat) (s' : List UInt8), i ≤ l.length ∧ n' ≤ i ∧ s'.length ≤ i * 100002 ∧ x = .int .i64 (i : Int) ∧ n = .int .i64 (n' : Int) ∧ s = .string ⟨s'.toArray⟩ ∧ Hid (getL name [] 0 l = getL name s' n' (l.drop i)) ∧ Hid (Below w1.heap.size w1 W)) (fun _ _ x _ => l.length - (intOf x).toNat)
  case atStart => exact ⟨0, 0, [], Nat.zero_le _, Nat.zero_le _, Nat.zero_le _, rfl, rfl, rfl, Lib.hid (by rw [List.drop_zero]), Lib.hid (Below.refl _ _)⟩
  case round =>
    obtain ⟨i, n', s', hil, hni, hsl, rfl, rfl, rfl, hgo, hb⟩ := hrel
    have hbox := hk'.out.below hb.out hk'.out.lt
    have k1 : wr.cell? ⟨w.heap.size, 1, none⟩ = some (.slice A l.length c) := hbox.cell 1
    have hbox' := Lib.hid hbox
    clear hbox
    have hniI : (n' : Int) ≤ 1000 := by omega
    by_cases hlt : i < l.length
    · have hltI : (i : Int) < (l.length : Int) := by omega
      obtain ⟨b, o, hA, hbl, hc⟩ := hx1.out (by omega)
      subst hA
      obtain ⟨q, hq⟩ : ∃ q, l[i] = q := ⟨_, rfl⟩
      obtain ⟨cn, cv⟩ := hc i q (by rw [List.getElem?_eq_getElem hlt, hq])
      have hqs := hls'.out q (hq ▸ List.getElem_mem hlt)
      have hdrop : l.drop i = q :: l.drop (i + 1) := by rw [List.drop_eq_getElem_cons hlt, hq]
      have hcn := (hb.out.cell (p := ⟨b, o + i * 2, none⟩) hbl).trans cn
      have hcv := Lib.hid (fun W (h9 : Below wr.heap.size wr W) => (h9.cell (p := ⟨b, o + i * 2 + 1, none⟩) (Nat.lt_of_lt_of_le hbl hb.out.size)).trans ((hb.out.cell (p := ⟨b, o + i * 2 + 1, none⟩) hbl).trans cv))
      have hk9 := Lib.hid (fun W (h9 : Below wr.heap.size wr W) => show W.cell? ⟨w.heap.size, 1, none⟩ = some (.slice (some ⟨b, o, none⟩) l.length c) from (hbox'.out.below h9 hbox'.out.lt).cell 1)
      have hgo1 := hgo.out
      rw [hdrop] at hgo1
      clear hgo hdrop hc cn cv hq
      obtain ⟨q1, q2⟩ := q
      simp only at hqs hcn hcv
      have hL1 := Lib.hid (fun W => hlow.out q1 W (by omega))
      have hL2 := Lib.hid (fun W => hlow.out name W (by omega))
      cases he : lowerL q1 == lowerL name with
      | false =>
        have hgo' := Lib.hid (show getL name [] 0 l = getL name s' n' (l.drop (i + 1)) by rw [hgo1, getL, if_neg (fun h => by rw [beq_eq_false_iff_ne] at he; exact he h)])
        clear hgo1
        generalize lowerL q1 = z1 at *
        generalize lowerL name = z2 at *
        go_wp2_with (first
          | (go_at_call 33; (with_reducible refine Calls.mono (hL1.out _) ?_); rintro e w5 ⟨rfl, hb5⟩; have hb5' := Lib.hid hb5; clear hb5)
          | (go_at_call 33; (with_reducible refine Calls.mono (hL2.out _) ?_); rintro e w6 ⟨rfl, hb6⟩; have hb6' := Lib.hid hb6; clear hb6))
        exact ⟨⟨i + 1, n', s', by omega, by omega, Nat.le_trans hsl (Nat.mul_le_mul_right _ (Nat.le_succ i)), by go_num, rfl, rfl, hgo', Lib.hid ((hb.out.trans (hb5'.out.mono hb.out.size)).trans (hb6'.out.mono (Nat.le_trans hb.out.size hb5'.out.size)))⟩, by simp [intOf]; omega⟩
      | true =>
        have hgo' := Lib.hid (show getL name [] 0 l = getL name ((if 0 < n' then s' ++ [44, 32] else s') ++ q2) (n' + 1) (l.drop (i + 1)) by rw [hgo1, getL, if_pos (beq_iff_eq.1 he)])
        clear hgo1
        generalize lowerL q1 = z1 at *
        generalize lowerL name = z2 at *
        have hsB : s'.length ≤ 100200000 := Nat.le_trans hsl (Nat.le_trans (Nat.mul_le_mul_right 100002 (show i ≤ 1000 by omega)) (by decide))
        by_cases h0 : 0 < n'
        · have h0I : (0 : Int) < (n' : Int) := by omega
          rw [if_pos h0] at hgo'
          go_wp2_with (first
            | (go_at_call 33; (with_reducible refine Calls.mono (hL1.out _) ?_); rintro e w5 ⟨rfl, hb5⟩; have hb5' := Lib.hid hb5; clear hb5)
            | (go_at_call 33; (with_reducible refine Calls.mono (hL2.out _) ?_); rintro e w6 ⟨rfl, hb6⟩; have hb56 := Lib.hid (hb5'.out.trans (hb6.mono hb5'.out.size)); have v6 := hcv.out _ hb56.out; have k6 := hk9.out _ hb56.out; clear hb6))
          exact ⟨⟨i + 1, n' + 1, (s' ++ [44, 32]) ++ q2, by omega, by omega, by simp only [List.length_append, List.length_cons, List.length_nil, Nat.succ_mul]; omega, by go_num, by go_num, by rw [show (⟨#[44, 32]⟩ : ByteArray) = ⟨[44, 32].toArray⟩ from rfl, app_str, app_str], hgo', Lib.hid (hb.out.trans (hb56.out.mono hb.out.size))⟩, by simp [intOf]; omega⟩
        · have h0I : ¬ (0 : Int) < (n' : Int) := by omega
          rw [if_neg h0] at hgo'
          go_wp2_with (first
            | (go_at_call 33; (with_reducible refine Calls.mono (hL1.out _) ?_); rintro e w5 ⟨rfl, hb5⟩; have hb5' := Lib.hid hb5; clear hb5)
            | (go_at_call 33; (with_reducible refine Calls.mono (hL2.out _) ?_); rintro e w6 ⟨rfl, hb6⟩; have hb56 := Lib.hid (hb5'.out.trans (hb6.mono hb5'.out.size)); have v6 := hcv.out _ hb56.out; have k6 := hk9.out _ hb56.out; clear hb6))
          exact ⟨⟨i + 1, n' + 1, s' ++ q2, by omega, by omega, by simp only [List.length_append, Nat.succ_mul]; omega, by go_num, by go_num, by rw [app_str], hgo', Lib.hid (hb.out.trans (hb56.out.mono hb.out.size))⟩, by simp [intOf]; omega⟩
    · obtain rfl : i = l.length := by omega
      have hR := Lib.hid (show getL name [] 0 l = (s', n') by rw [hgo.out, List.drop_length, getL])
      go_wp2
      go_ret2
      exact ⟨by rw [hR.out]; rfl, hal.out.trans (hb.out.mono hal.out.size)⟩
end Go.Proofs.YtabgpnieekcdhaaDoor
