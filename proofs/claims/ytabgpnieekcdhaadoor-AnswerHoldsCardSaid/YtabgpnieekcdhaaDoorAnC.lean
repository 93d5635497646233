import Derived.Test.YtabgpnieekcdhaaDoorAnB
import Derived.Test.YtabgpnieekcdhaaDoorShelfR
import Derived.Test.YtabgpnieekcdhaaDoorGt
import Derived.Test.YtabgpnieekcdhaaDoorOw
import Derived.Lib.Join
import Derived.Sort.BigQuietIn
import Derived.BigQuiet
import Derived.Deep.QuietTactic
namespace Go.Proofs.YtabgpnieekcdhaaDoor
open Go.RowKit Go.Shelf
attribute [local go_sem] Oper.semAt_some
attribute [local go_sem] wideF_fn wideF_depth wideF_round

/-! ## Words; an answer begun; what one status alone has -/
theorem words_any (L : List (List UInt8)) (k c : Nat) (cs : Array Value) (w : World) (hk : Has w k 9 cs) (hc : ∀ (j : Nat) (x : List UInt8), L[j]? = some x → cs[j]? = some (.string ⟨x.toArray⟩)) (hcap : L.length ≤ c) (hl : L.length ≤ 100) (hj : (Lib.join L [32]).length ≤ 1000000) :
    Calls Tryd.prog 29 #[.slice (some ⟨k, 0, none⟩) L.length c] w (StrR (Lib.join L [32]) w) := by
  unfold StrR
  have hm : (L.map fun y => (⟨y.toArray⟩ : ByteArray)).map (·.data.toList) = L := by simp [List.map_map, Function.comp_def]
  have hjn := Tryd.strings_Join k 0 c (L.map fun y => ⟨y.toArray⟩) ⟨#[32]⟩ w (fun j x hx => by
    rw [List.getElem?_map] at hx
    cases hL : L[j]? with
    | none => rw [hL] at hx; cases hx
    | some y =>
      rw [hL] at hx
      obtain rfl : ⟨y.toArray⟩ = x := by simpa using hx
      rw [Nat.zero_add, hk.cell]
      exact hc j y hL) hk.lt (by simp; omega) (by simpa using hcap) (by
    rw [hm]
    show (Lib.join L [32]).length ≤ _
    omega)
  rw [hm] at hjn
  rw [show (⟨#[32]⟩ : ByteArray).data.toList = [32] from rfl, List.length_map] at hjn
  have hjn' := Lib.hid hjn
  clear hjn hk hc hj hm
  go_enter Tryd.func29, Tryd.ntmps29
  go_wp2_with (go_at_call 44; (with_reducible refine Calls.mono hjn'.out ?_); rintro e w2 ⟨rfl, hb2⟩; have hb2' := Lib.hid hb2; clear hb2)
  go_ret
  exact ⟨rfl, hb2'.out⟩
theorem join3 (a b c : List UInt8) : Lib.join [a, b, c] [32] = a ++ [32] ++ b ++ [32] ++ c := by simp [Lib.join, List.intercalate, List.intersperse]
theorem join2 (a b : List UInt8) : Lib.join [a, b] [32] = a ++ [32] ++ b := by simp [Lib.join, List.intercalate, List.intersperse]
theorem words3_any (a b c : List UInt8) (k : Nat) (w : World) (hk : Has w k 9 #[.string ⟨a.toArray⟩, .string ⟨b.toArray⟩, .string ⟨c.toArray⟩]) (ha : a.length ≤ 1000) (hb : b.length ≤ 1000) (hc : c.length ≤ 1000) :
    Calls Tryd.prog 29 #[.slice (some ⟨k, 0, none⟩) 3 3] w (StrR (a ++ [32] ++ b ++ [32] ++ c) w) := by
  have := words_any [a, b, c] k 3 _ w hk (fun j x hx => by
    have hj : j < 3 := (List.getElem?_eq_some_iff.1 hx).1
    rcases (by omega : j = 0 ∨ j = 1 ∨ j = 2) with rfl | rfl | rfl <;> (obtain rfl := Option.some.inj hx; rfl)) (by simp) (by simp) (by rw [join3]; simp; omega)
  rw [join3] at this
  exact this
theorem words2_any (a b : List UInt8) (k : Nat) (w : World) (hk : Has w k 9 #[.string ⟨a.toArray⟩, .string ⟨b.toArray⟩]) (ha : a.length ≤ 1000) (hb : b.length ≤ 1000) :
    Calls Tryd.prog 29 #[.slice (some ⟨k, 0, none⟩) 2 2] w (StrR (a ++ [32] ++ b) w) := by
  have := words_any [a, b] k 2 _ w hk (fun j x hx => by
    have hj : j < 2 := (List.getElem?_eq_some_iff.1 hx).1
    rcases (by omega : j = 0 ∨ j = 1) with rfl | rfl <;> (obtain rfl := Option.some.inj hx; rfl)) (by simp) (by simp) (by rw [join2]; simp; omega)
  rw [join2] at this
  exact this
set_option maxRecDepth 100000 in
set_option maxHeartbeats 4000000 in
theorem begun_any (s : Nat) (r : List UInt8) (w : World) (hT : Tab w) (hs : s < 1000) (hr : r.length ≤ 1000) :
    Calls Tryd.prog 39 #[.int .i64 (s : Int), .string ⟨r.toArray⟩] w fun e w' => ∃ u, e = .returned (.pointer (some ⟨u, 0, none⟩)) ∧ w.heap.size ≤ u ∧ UnB w' u (An.firstT s r) [] ⟨#[]⟩ ∧ Below w.heap.size w w' := by
  have hd := Lib.hid (digits_any s (by omega) w hT)
  have hdl := An.dec_len (x := s) (by omega)
  have hwd := Lib.hid (fun k W h => words3_any An.httpL (An.dec s) r k W h (by decide) (by omega) hr)
  unfold StrR at hd hwd
  have hf : Hid (An.firstT s r = An.httpL ++ [32] ++ An.dec s ++ [32] ++ r) := Lib.hid rfl
  generalize An.firstT s r = f at *
  generalize An.dec s = d at *
  clear hT
  go_enter Tryd.func39, Tryd.ntmps39
  go_wp2_with (first
    | (go_at_call 30; (with_reducible refine Calls.mono hd.out ?_); rintro e w2 ⟨rfl, hb2⟩; obtain ⟨k, hk⟩ : ∃ k, w2.heap.size = k := ⟨_, rfl⟩; have hb2' := Lib.hid hb2; have hz3 := Lib.hid (show Has (w2.alloc (.cells #[.string ⟨#[72, 84, 84, 80, 47, 49, 46, 49]⟩, .string ⟨d.toArray⟩, .string ⟨r.toArray⟩] 9)) k 9 #[.string ⟨An.httpL.toArray⟩, .string ⟨d.toArray⟩, .string ⟨r.toArray⟩] by rw [← hk]; exact Has.new _ _ _); have hb3 := Lib.hid (show Below w.heap.size w (w2.alloc (.cells #[.string ⟨#[72, 84, 84, 80, 47, 49, 46, 49]⟩, .string ⟨d.toArray⟩, .string ⟨r.toArray⟩] 9)) from hb2.alloc hb2.size _); clear hb2)
    | (go_at_call 29; (with_reducible refine Calls.mono (hwd.out _ _ hz3.out) ?_); rintro e w4 ⟨rfl, hb4⟩; have hb4' := Lib.hid (below_on hb3.out hb4); clear hb4))
  go_ret
  refine ⟨w4.heap.size, rfl, hb4'.out.size, ⟨.slice none 0 0, ?_, hdsO_nil _ _⟩, hb4'.out.alloc hb4'.out.size _⟩
  rw [hf.out]
  have h := Has.new w4 83 #[.string ⟨(An.httpL ++ [32] ++ d ++ [32] ++ r).toArray⟩, .slice none 0 0, .string ⟨#[]⟩]
  simpa using h
set_option maxRecDepth 100000 in
set_option maxHeartbeats 4000000 in
theorem putOwn_any (s : Nat) (u : Nat) (f : List UInt8) (l : List PairL) (body : ByteArray) (w : World) (hU : UnB w u f l body) (hl : l.length ≤ 1000) :
    Calls Tryd.prog 42 #[.int .i64 (s : Int), .func (.func 40) #[.pointer (some ⟨u, 0, none⟩)] #[]] w fun e w' => e = .returned (.tuple #[]) ∧ UnB w' u f (l ++ An.own s) body ∧ Below u w w' := by
  have hen := enters_of (P := Tryd.prog) Tryd.func40 (by kernel_rfl) rfl
  have hfd := Lib.hid (fun a b W => fieldH_any a b W)
  have hlt := hU.lt
  have hU' := Lib.hid hU
  by_cases h5 : s = 405
  · subst h5
    have hp := Lib.hid (fun k W (h1 : UnB W u f l body) (h2 : Has W k 69 #[.string ⟨#[97, 108, 108, 111, 119]⟩, .string ⟨#[71, 69, 84]⟩]) => show Calls Tryd.prog 40 #[.pointer (some ⟨u, 0, none⟩), .slice (some ⟨k, 0, none⟩) 1 1] W fun e w' => e = .returned (.tuple #[]) ∧ UnB w' u f (l ++ An.own 405) body ∧ Below u W w' from put_any u k 1 f l (An.own 405) body _ W h1 h2 (fun j x hx => by have hj : j < 2 := (List.getElem?_eq_some_iff.1 hx).1; rcases (by omega : j = 0 ∨ j = 1) with rfl | rfl <;> exact hx) (by show l.length + 1 ≤ _; omega))
    clear hU
    go_enter Tryd.func42, Tryd.ntmps42
    go_wp2_with (first
      | (go_at_call 41; (with_reducible refine Calls.mono (hfd.out _ _ _) ?_); rintro e w2 ⟨rfl, hb2⟩; have hz3 := Lib.hid (Has.new w2 69 #[.string ⟨#[97, 108, 108, 111, 119]⟩, .string ⟨#[71, 69, 84]⟩]); have hb3 := Lib.hid (hb2.alloc hb2.size (.cells #[.string ⟨#[97, 108, 108, 111, 119]⟩, .string ⟨#[71, 69, 84]⟩] 69)); have hU3 := Lib.hid (hU'.out.below hb3.out); clear hb2)
      | (go_at_call 40; (with_reducible refine Calls.mono (hp.out _ _ hU3.out hz3.out) ?_); rintro e w4 ⟨rfl, hu4, hb4⟩; have hu4' := Lib.hid hu4; have hb4' := Lib.hid hb4; clear hu4 hb4))
    go_end0
    exact ⟨rfl, hu4'.out, (hb3.out.mono (by omega)).trans hb4'.out⟩
  · by_cases h3 : s = 503
    · subst h3
      have hp := Lib.hid (fun k W (h1 : UnB W u f l body) (h2 : Has W k 69 #[.string ⟨#[114, 101, 116, 114, 121, 45, 97, 102, 116, 101, 114]⟩, .string ⟨#[49]⟩]) => show Calls Tryd.prog 40 #[.pointer (some ⟨u, 0, none⟩), .slice (some ⟨k, 0, none⟩) 1 1] W fun e w' => e = .returned (.tuple #[]) ∧ UnB w' u f (l ++ An.own 503) body ∧ Below u W w' from put_any u k 1 f l (An.own 503) body _ W h1 h2 (fun j x hx => by have hj : j < 2 := (List.getElem?_eq_some_iff.1 hx).1; rcases (by omega : j = 0 ∨ j = 1) with rfl | rfl <;> exact hx) (by show l.length + 1 ≤ _; omega))
      clear hU
      go_enter Tryd.func42, Tryd.ntmps42
      go_wp2_with (first
        | (go_at_call 41; (with_reducible refine Calls.mono (hfd.out _ _ _) ?_); rintro e w2 ⟨rfl, hb2⟩; have hz3 := Lib.hid (Has.new w2 69 #[.string ⟨#[114, 101, 116, 114, 121, 45, 97, 102, 116, 101, 114]⟩, .string ⟨#[49]⟩]); have hb3 := Lib.hid (hb2.alloc hb2.size (.cells #[.string ⟨#[114, 101, 116, 114, 121, 45, 97, 102, 116, 101, 114]⟩, .string ⟨#[49]⟩] 69)); have hU3 := Lib.hid (hU'.out.below hb3.out); clear hb2)
        | (go_at_call 40; (with_reducible refine Calls.mono (hp.out _ _ hU3.out hz3.out) ?_); rintro e w4 ⟨rfl, hu4, hb4⟩; have hu4' := Lib.hid hu4; have hb4' := Lib.hid hb4; clear hu4 hb4))
      go_end0
      exact ⟨rfl, hu4'.out, (hb3.out.mono (by omega)).trans hb4'.out⟩
    · have e0 : An.own s = [] := by unfold An.own; rw [if_neg h5, if_neg h3]
      rw [e0, List.append_nil]
      have i5 : ¬ (s : Int) = 405 := by omega
      have i3 : ¬ (s : Int) = 503 := by omega
      clear hU h5 h3
      go_enter Tryd.func42, Tryd.ntmps42
      go_wp2
      go_end0
      exact ⟨rfl, hU'.out, Below.refl _ _⟩
end Go.Proofs.YtabgpnieekcdhaaDoor
