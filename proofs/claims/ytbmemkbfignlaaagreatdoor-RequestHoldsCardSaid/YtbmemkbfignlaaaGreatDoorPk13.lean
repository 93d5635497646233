import Derived.Test.YtbmemkbfignlaaaGreatDoorPk12
import Derived.Lib.IndexLaws
import Derived.Lib.SplitLaws
namespace Go.Proofs.YtbmemkbfignlaaaGreatDoor
open Go.RowKit Go.Shelf
attribute [local go_sem] Oper.semAt_some

/-! ## What stands ahead of a byte, and behind it -/
theorem index_atL (k : UInt8) : ∀ s : List UInt8, (Lib.index s [k] = -1 ∧ atL k s = s.length) ∨ (Lib.index s [k] = (atL k s : Int) ∧ atL k s < s.length)
  | [] => .inl ⟨rfl, rfl⟩
  | c :: r => by
    have ih := index_atL k r
    by_cases h : c = k
    · subst h
      refine .inr ⟨?_, ?_⟩
      · rw [atL, if_pos rfl]
        simp [Lib.index, List.isPrefixOf]
      · rw [atL, if_pos rfl]; simp
    · have hp : ([k] : List UInt8).isPrefixOf (c :: r) = false := by simp [List.isPrefixOf]; exact fun e => h e.symm
      have hi : Lib.index (c :: r) [k] = if Lib.index r [k] == -1 then -1 else Lib.index r [k] + 1 := by
        conv => lhs; unfold Lib.index
        rw [hp]; rfl
      rw [hi, atL, if_neg h, List.length_cons]
      rcases ih with ⟨e1, e2⟩ | ⟨e1, e2⟩
      · exact .inl ⟨by rw [if_pos (beq_iff_eq.2 e1)], by rw [e2]⟩
      · refine .inr ⟨?_, by omega⟩
        rw [if_neg (fun e => by have := beq_iff_eq.1 e; omega), e1]
        push_cast
        rfl
theorem cut_at (k : UInt8) (s : List UInt8) : (Lib.cut s [k]).1 = s.take (atL k s) ∧ (Lib.cut s [k]).2.1 = s.drop (atL k s + 1) := by
  unfold Lib.cut
  rcases index_atL k s with ⟨e1, e2⟩ | ⟨e1, e2⟩
  · rw [if_neg (by omega), e2]
    exact ⟨by simp, by simp⟩
  · rw [if_pos (by omega), e1]
    exact ⟨by simp, by simp⟩
/-- strings.Cut at one byte. -/
theorem cut_any (k : UInt8) (s : List UInt8) (w : World) (hs : s.length ≤ 600000) (hM : MaxT w) : ∃ f, Calls Tryz.prog 64 #[.string ⟨s.toArray⟩, .string ⟨#[k]⟩] w fun e w' =>
    e = .returned (.tuple #[.string ⟨(s.take (atL k s)).toArray⟩, .string ⟨(s.drop (atL k s + 1)).toArray⟩, .bool f]) ∧ Below w.heap.size w w' := by
  obtain ⟨m, hm⟩ := hM
  have hc := Tryz.strings_Cut ⟨s.toArray⟩ ⟨#[k]⟩ m w (by show s.length < _; omega) (hm.cell 0)
  rw [show (⟨s.toArray⟩ : ByteArray).data.toList = s from rfl, show (⟨#[k]⟩ : ByteArray).data.toList = [k] from rfl, (cut_at k s).1, (cut_at k s).2] at hc
  exact ⟨_, hc.mono fun e w' ⟨he, n, hw⟩ => ⟨he, by rw [hw]; exact below_draws (Below.refl _ _) n⟩⟩
/-! ## A pair, a part -/
def PairV (o : Option PairL) (w : World) (e : Ending) (w' : World) : Prop := (match o with
  | some q => e = .returned (.agg #[.string ⟨q.1.toArray⟩, .string ⟨q.2.toArray⟩])
  | none => e = gaveE 210) ∧ Below w.heap.size w w'
set_option maxRecDepth 100000 in
set_option maxHeartbeats 4000000 in
theorem partT_any (s : List UInt8) (w : World) (hT : TabT w) (hs : s.length ≤ 600000) : Calls Tryz.prog 100 #[.string ⟨s.toArray⟩] w (DecT (partL s) w) := by
  have h0 := Lib.hid (ofPart_any w)
  obtain ⟨o, ho⟩ : ∃ o, partL s = o := ⟨_, rfl⟩
  rw [ho]
  have hT' := Lib.hid hT
  unfold partL at ho
  obtain ⟨d, hd⟩ : ∃ d, decL false s = d := ⟨_, rfl⟩
  rw [hd] at ho
  have h1 := Lib.hid (fun W (hW : TabT W) => decoded_any false s W hW.1 hs)
  rw [hd] at h1
  unfold DecT at h1
  have hz := Lib.hid (fun p (hp : decL false s = some p) => decT_len false s.length (Nat.le_refl _) hp)
  cases d with
  | none =>
    obtain rfl : none = o := ho
    simp only at h1
    clear hd
    go_enter Tryz.func100, Tryz.ntmps100
    go_wp2_with (first
      | (go_at_call 136; (with_reducible refine Calls.mono h0.out ?_); rintro e w1 ⟨rfl, hb1⟩; have hb1' := Lib.hid hb1; have hz1 := Lib.hid hb1.size; clear hb1)
      | (go_at_call 137; (with_reducible refine Calls.mono (h1.out _ ((hT'.out.below hb1'.out).below ((Below.refl _ _).alloc (Nat.le_refl _) _))) ?_); rintro e w2 ⟨rfl, hb2⟩; have hb2' := Lib.hid hb2; clear hb2))
    exact ⟨rfl, rfl, (hb1'.out.alloc hz1.out _).trans (hb2'.out.mono (by have := hz1.out; simp; omega))⟩
  | some p =>
    have hpl := hz.out p hd
    simp only at h1 ho
    have h2 := Lib.hid (fun k W hk => mustBeP_any 210 p (by omega) k W hk)
    rw [← partB_split] at h2
    unfold MustR at h2
    clear hd hz hpl
    cases hp : partB p with
    | false =>
      rw [hp] at ho h2
      obtain rfl : none = o := by simpa using ho
      simp only [Bool.false_eq_true, if_false] at h2
      go_enter Tryz.func100, Tryz.ntmps100
      go_wp2_with (first
        | (go_at_call 136; (with_reducible refine Calls.mono h0.out ?_); rintro e w1 ⟨rfl, hb1⟩; have hb1' := Lib.hid hb1; have hz1 := Lib.hid hb1.size; clear hb1)
        | (go_at_call 137; (with_reducible refine Calls.mono (h1.out _ ((hT'.out.below hb1'.out).below ((Below.refl _ _).alloc (Nat.le_refl _) _))) ?_); rintro e w2 ⟨rfl, hb2⟩; have hb2' := Lib.hid hb2; have hk2 := Lib.hid ((Has.new _ _ _).below hb2 (by simp)); clear hb2)
        | (go_at_call 95; (with_reducible refine Calls.mono (h2.out _ _ hk2.out) ?_); rintro e w3 ⟨rfl, hb3⟩; have hb3' := Lib.hid hb3; clear hb3))
      have hA := (hb1'.out.alloc hz1.out _).trans (hb2'.out.mono (by have := hz1.out; simp; omega))
      exact ⟨rfl, rfl, hA.trans (hb3'.out.mono hA.size)⟩
    | true =>
      rw [hp] at ho h2
      obtain rfl : some p = o := by simpa using ho
      simp only [if_true] at h2
      go_enter Tryz.func100, Tryz.ntmps100
      go_wp2_with (first
        | (go_at_call 136; (with_reducible refine Calls.mono h0.out ?_); rintro e w1 ⟨rfl, hb1⟩; have hb1' := Lib.hid hb1; have hz1 := Lib.hid hb1.size; clear hb1)
        | (go_at_call 137; (with_reducible refine Calls.mono (h1.out _ ((hT'.out.below hb1'.out).below ((Below.refl _ _).alloc (Nat.le_refl _) _))) ?_); rintro e w2 ⟨rfl, hb2⟩; have hb2' := Lib.hid hb2; have hk2 := Lib.hid ((Has.new _ _ _).below hb2 (by simp)); clear hb2)
        | (go_at_call 95; (with_reducible refine Calls.mono (h2.out _ _ hk2.out) ?_); rintro e w3 ⟨rfl, hb3⟩; have hb3' := Lib.hid hb3; clear hb3))
      go_ret
      have hA := (hb1'.out.alloc hz1.out _).trans (hb2'.out.mono (by have := hz1.out; simp; omega))
      exact ⟨rfl, hA.trans (hb3'.out.mono hA.size)⟩
set_option maxRecDepth 100000 in
set_option maxHeartbeats 4000000 in
theorem pairT_any (s : List UInt8) (w : World) (hT : TabT w) (hs : s.length ≤ 600000) : Calls Tryz.prog 102 #[.string ⟨s.toArray⟩] w (PairV (pairL s) w) := by
  obtain ⟨o, ho⟩ : ∃ o, pairL s = o := ⟨_, rfl⟩
  rw [ho]
  unfold pairL at ho
  have hal := (Below.refl w.heap.size w).alloc (Nat.le_refl _) (.cells #[.string ⟨#[]⟩, .string ⟨#[]⟩] 88)
  obtain ⟨w1, hw1⟩ : ∃ w1, w.alloc (.cells #[.string ⟨#[]⟩, .string ⟨#[]⟩] 88) = w1 := ⟨_, rfl⟩
  have hn1 : Hid (Has w1 w.heap.size 88 #[.string ⟨#[]⟩, .string ⟨#[]⟩]) := Lib.hid (by rw [← hw1]; exact Has.new _ _ _)
  rw [hw1] at hal
  have hal' := Lib.hid hal
  have hT1 := Lib.hid (hT.below hal)
  have hz1 := Lib.hid hal.size
  obtain ⟨f, hc⟩ := cut_any 61 s w1 hs hT1.out.2
  have hc' := Lib.hid hc
  have hla : (s.take (atL 61 s)).length ≤ 600000 := by simp; omega
  have hlb : (s.drop (atL 61 s + 1)).length ≤ 600000 := by simp; omega
  generalize s.take (atL 61 s) = a at *
  generalize s.drop (atL 61 s + 1) = b at *
  have h1 := Lib.hid (fun W (hW : TabT W) => decoded_any true a W hW.1 hla)
  have h2 := Lib.hid (fun W (hW : TabT W) => decoded_any true b W hW.1 hlb)
  generalize decL true a = d1 at *
  generalize decL true b = d2 at *
  unfold DecT at h1 h2
  clear hal hc hT hla hlb
  cases d1 with
  | none =>
    obtain rfl : none = o := ho
    simp only at h1
    clear h2
    go_enter Tryz.func102, Tryz.ntmps102
    go_wp2_with (first
      | (go_at_call 64; (with_reducible refine Calls.mono hc'.out ?_); rintro e w2 ⟨rfl, hb2⟩; have hb2' := Lib.hid hb2; clear hb2)
      | (go_at_call 137; (with_reducible refine Calls.mono (h1.out _ (hT1.out.below hb2'.out)) ?_); rintro e w3 ⟨rfl, hb3⟩; have hb3' := Lib.hid hb3; clear hb3))
    have hA := hal'.out.trans (hb2'.out.mono hz1.out)
    exact ⟨rfl, rfl, hA.trans (hb3'.out.mono hA.size)⟩
  | some x =>
    cases d2 with
    | none =>
      obtain rfl : none = o := ho
      simp only at h1 h2
      go_enter Tryz.func102, Tryz.ntmps102
      go_wp2_with (first
        | (go_at_call 64; (with_reducible refine Calls.mono hc'.out ?_); rintro e w2 ⟨rfl, hb2⟩; have hb2' := Lib.hid hb2; clear hb2)
        | (go_at_call 137; (with_reducible refine Calls.mono (h1.out _ (hT1.out.below hb2'.out)) ?_); rintro e w3 ⟨rfl, hb3⟩; have hb3' := Lib.hid hb3; clear hb3)
        | (go_at_call 137; (with_reducible refine Calls.mono (h2.out _ ((hT1.out.below hb2'.out).below hb3'.out)) ?_); rintro e w4 ⟨rfl, hb4⟩; have hb4' := Lib.hid hb4; clear hb4))
      have hA := hal'.out.trans (hb2'.out.mono hz1.out)
      have hB := hA.trans (hb3'.out.mono hA.size)
      exact ⟨rfl, rfl, hB.trans (hb4'.out.mono hB.size)⟩
    | some y =>
      obtain rfl : some (x, y) = o := ho
      simp only at h1 h2
      go_enter Tryz.func102, Tryz.ntmps102
      go_wp2_with (first
        | (go_at_call 64; (with_reducible refine Calls.mono hc'.out ?_); rintro e w2 ⟨rfl, hb2⟩; have hb2' := Lib.hid hb2; clear hb2)
        | (go_at_call 137; (with_reducible refine Calls.mono (h1.out _ (hT1.out.below hb2'.out)) ?_); rintro e w3 ⟨rfl, hb3⟩; have hb3' := Lib.hid hb3; clear hb3)
        | (go_at_call 137; (with_reducible refine Calls.mono (h2.out _ ((hT1.out.below hb2'.out).below hb3'.out)) ?_); rintro e w4 ⟨rfl, hb4⟩; have hn4 := (((hn1.out.below hb2'.out hn1.out.lt).below hb3'.out (hn1.out.below hb2'.out hn1.out.lt).lt).below hb4 ((hn1.out.below hb2'.out hn1.out.lt).below hb3'.out (hn1.out.below hb2'.out hn1.out.lt).lt).lt); have hb4' := Lib.hid hb4; clear hb4; have c0 := hn4.cell 0; have c1 := hn4.cell 1; have f0 := hn4.free 0; have f1 := hn4.free 1; have hn4' := Lib.hid hn4; clear hn4))
      have y0 : ∀ a b, ((w4.setCell ⟨w.heap.size, 0, none⟩ a).setCell ⟨w.heap.size, 1, none⟩ b).cell? ⟨w.heap.size, 0, none⟩ = some a := fun a b => ((hn4'.out.put 0 a).put 1 b).cell 0
      have y1 : ∀ a b, ((w4.setCell ⟨w.heap.size, 0, none⟩ a).setCell ⟨w.heap.size, 1, none⟩ b).cell? ⟨w.heap.size, 1, none⟩ = some b := fun a b => ((hn4'.out.put 0 a).put 1 b).cell 1
      have hA := hal'.out.trans (hb2'.out.mono hz1.out)
      have hB := hA.trans (hb3'.out.mono hA.size)
      have hC := hB.trans (hb4'.out.mono hB.size)
      refine bodyPost_ret (v := _) (by simp only [results, Tryz.results102]; simp [go_sem, y0, y1]) rfl ⟨rfl, (hC.setCell (p := ⟨w.heap.size, 0, none⟩) (Nat.le_refl _) _).setCell (p := ⟨w.heap.size, 1, none⟩) (Nat.le_refl _) _⟩
end Go.Proofs.YtbmemkbfignlaaaGreatDoor
