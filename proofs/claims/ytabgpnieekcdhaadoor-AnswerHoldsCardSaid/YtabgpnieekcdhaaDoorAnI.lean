import Derived.Test.YtabgpnieekcdhaaDoorAnH
namespace Go.Proofs.YtabgpnieekcdhaaDoor
open Go.RowKit Go.Shelf
attribute [local go_sem] Oper.semAt_some
attribute [local go_sem] wideF_fn wideF_depth wideF_round

/-! ## A stream's head -/
set_option maxRecDepth 100000 in
set_option maxHeartbeats 8000000 in
theorem stream_true (w : World) (hT : TabN w) : Calls Tryd.prog 34 #[.bool true] w fun e w' => ∃ u, e = .returned (.pointer (some ⟨u, 0, none⟩)) ∧ w.heap.size ≤ u ∧ UnB w' u An.streamF (An.streamFl true) ⟨#[]⟩ ∧ Below w.heap.size w w' := by
  have hr := reason_any 200 w hT.2
  rw [show An.reason 200 = some An.rs200 from An.reason_at (j := 0) (by omega)] at hr
  simp only at hr
  have hr' := Lib.hid hr
  have hbg := Lib.hid (fun W (hW : Below w.heap.size w W) => begun_any 200 An.rs200 W (hT.1.below hW) (by omega) (by decide))
  have hfd := Lib.hid (fun a b W => fieldH_any a b W)
  have hen := enters_of (P := Tryd.prog) Tryd.func40 (by kernel_rfl) rfl
  have hp1 := Lib.hid (fun u k W (h1 : UnB W u (An.firstT 200 An.rs200) [] ⟨#[]⟩) (h2 : Has W k 69 #[.string ⟨#[99, 111, 110, 116, 101, 110, 116, 45, 116, 121, 112, 101]⟩, .string ⟨#[116, 101, 120, 116, 47, 101, 118, 101, 110, 116, 45, 115, 116, 114, 101, 97, 109]⟩, .string ⟨#[99, 97, 99, 104, 101, 45, 99, 111, 110, 116, 114, 111, 108]⟩, .string ⟨#[110, 111, 45, 115, 116, 111, 114, 101]⟩]) => show Calls Tryd.prog 40 #[.pointer (some ⟨u, 0, none⟩), .slice (some ⟨k, 0, none⟩) 2 2] W fun e w' => e = .returned (.tuple #[]) ∧ UnB w' u (An.firstT 200 An.rs200) ([] ++ [(An.ctypeL, An.streamT), (An.cacheL, An.noStoreL)]) ⟨#[]⟩ ∧ Below u W w' from put_any u k 2 _ [] [(An.ctypeL, An.streamT), (An.cacheL, An.noStoreL)] _ _ W h1 h2 (fun j x hx => by have hj : j < 4 := (List.getElem?_eq_some_iff.1 hx).1; rcases (by omega : j = 0 ∨ j = 1 ∨ j = 2 ∨ j = 3) with rfl | rfl | rfl | rfl <;> exact hx) (by simp))
  have hp2 := Lib.hid (fun u k W (h1 : UnB W u (An.firstT 200 An.rs200) ([] ++ [(An.ctypeL, An.streamT), (An.cacheL, An.noStoreL)]) ⟨#[]⟩) (h2 : Has W k 69 #[.string ⟨#[116, 114, 97, 110, 115, 102, 101, 114, 45, 101, 110, 99, 111, 100, 105, 110, 103]⟩, .string ⟨#[99, 104, 117, 110, 107, 101, 100]⟩]) => show Calls Tryd.prog 40 #[.pointer (some ⟨u, 0, none⟩), .slice (some ⟨k, 0, none⟩) 1 1] W fun e w' => e = .returned (.tuple #[]) ∧ UnB w' u An.streamF (An.streamFl true) ⟨#[]⟩ ∧ Below u W w' from by rw [show An.streamF = An.firstT 200 An.rs200 from rfl, show An.streamFl true = [] ++ [(An.ctypeL, An.streamT), (An.cacheL, An.noStoreL)] ++ [(An.tencL, An.chunkedL)] from rfl]; exact put_any u k 1 _ _ [(An.tencL, An.chunkedL)] _ _ W h1 h2 (fun j x hx => by have hj : j < 2 := (List.getElem?_eq_some_iff.1 hx).1; rcases (by omega : j = 0 ∨ j = 1) with rfl | rfl <;> exact hx) (by simp))
  clear hr hT
  generalize An.firstT 200 An.rs200 = f1 at *
  generalize An.streamF = f2 at *
  generalize An.streamFl true = fl at *
  go_enter Tryd.func34, Tryd.ntmps34
  go_upto_region 3 with (first
    | (go_at_call 8; (with_reducible refine Calls.mono hr'.out ?_); rintro e w2 ⟨rfl, hb2⟩; have hb2' := Lib.hid hb2; clear hb2)
    | (go_at_call 39; (with_reducible refine Calls.mono (hbg.out _ hb2'.out) ?_); rintro e w3 ⟨u, rfl, hu, hU, hb3⟩; have hU3 := Lib.hid hU; have hB3 := Lib.hid (below_on hb2'.out hb3); have hu' := Lib.hid (Nat.le_trans hb2'.out.size hu); clear hU hb3 hu))
  go_wp2_with (first
    | (go_at_call 41; (with_reducible refine Calls.mono (hfd.out ⟨#[99, 111, 110, 116, 101, 110, 116, 45, 116, 121, 112, 101]⟩ _ _) ?_); rintro e w4 ⟨rfl, hb4⟩; have hU4 := Lib.hid (hU3.out.below hb4); have hB4 := Lib.hid (below_on hB3.out hb4); clear hb4)
    | (go_at_call 41; (with_reducible refine Calls.mono (hfd.out ⟨#[99, 97, 99, 104, 101, 45, 99, 111, 110, 116, 114, 111, 108]⟩ _ _) ?_); rintro e w5 ⟨rfl, hb5⟩; have hb6 := hb5.alloc hb5.size (.cells #[.string ⟨#[99, 111, 110, 116, 101, 110, 116, 45, 116, 121, 112, 101]⟩, .string ⟨#[116, 101, 120, 116, 47, 101, 118, 101, 110, 116, 45, 115, 116, 114, 101, 97, 109]⟩, .string ⟨#[99, 97, 99, 104, 101, 45, 99, 111, 110, 116, 114, 111, 108]⟩, .string ⟨#[110, 111, 45, 115, 116, 111, 114, 101]⟩] 69); have hz6 := Lib.hid (Has.new w5 69 #[.string ⟨#[99, 111, 110, 116, 101, 110, 116, 45, 116, 121, 112, 101]⟩, .string ⟨#[116, 101, 120, 116, 47, 101, 118, 101, 110, 116, 45, 115, 116, 114, 101, 97, 109]⟩, .string ⟨#[99, 97, 99, 104, 101, 45, 99, 111, 110, 116, 114, 111, 108]⟩, .string ⟨#[110, 111, 45, 115, 116, 111, 114, 101]⟩]); have hU6 := Lib.hid (hU4.out.below hb6); have hB6 := Lib.hid (below_on hB4.out hb6); clear hb5 hb6)
    | (go_at_call 40; (with_reducible refine Calls.mono (hp1.out _ _ _ hU6.out hz6.out) ?_); rintro e w7 ⟨rfl, hU7, hb7⟩; have hU7' := Lib.hid hU7; have hB7 := Lib.hid (hB6.out.trans (hb7.mono hu'.out)); clear hU7 hb7)
    | (go_at_call 41; (with_reducible refine Calls.mono (hfd.out ⟨#[116, 114, 97, 110, 115, 102, 101, 114, 45, 101, 110, 99, 111, 100, 105, 110, 103]⟩ _ _) ?_); rintro e w8 ⟨rfl, hb8⟩; have hb9 := hb8.alloc hb8.size (.cells #[.string ⟨#[116, 114, 97, 110, 115, 102, 101, 114, 45, 101, 110, 99, 111, 100, 105, 110, 103]⟩, .string ⟨#[99, 104, 117, 110, 107, 101, 100]⟩] 69); have hz9 := Lib.hid (Has.new w8 69 #[.string ⟨#[116, 114, 97, 110, 115, 102, 101, 114, 45, 101, 110, 99, 111, 100, 105, 110, 103]⟩, .string ⟨#[99, 104, 117, 110, 107, 101, 100]⟩]); have hU9 := Lib.hid (hU7'.out.below hb9); have hB9 := Lib.hid (below_on hB7.out hb9); clear hb8 hb9)
    | (go_at_call 40; (with_reducible refine Calls.mono (hp2.out _ _ _ hU9.out hz9.out) ?_); rintro e w10 ⟨rfl, hU10, hb10⟩; have hU10' := Lib.hid hU10; have hB10 := Lib.hid (hB9.out.trans (hb10.mono hu'.out)); clear hU10 hb10))
  go_ret
  exact ⟨u, rfl, hu'.out, hU10'.out, hB10.out⟩
set_option maxRecDepth 100000 in
set_option maxHeartbeats 8000000 in
theorem stream_false (w : World) (hT : TabN w) : Calls Tryd.prog 34 #[.bool false] w fun e w' => ∃ u, e = .returned (.pointer (some ⟨u, 0, none⟩)) ∧ w.heap.size ≤ u ∧ UnB w' u An.streamF (An.streamFl false) ⟨#[]⟩ ∧ Below w.heap.size w w' := by
  have hr := reason_any 200 w hT.2
  rw [show An.reason 200 = some An.rs200 from An.reason_at (j := 0) (by omega)] at hr
  simp only at hr
  have hr' := Lib.hid hr
  have hbg := Lib.hid (fun W (hW : Below w.heap.size w W) => begun_any 200 An.rs200 W (hT.1.below hW) (by omega) (by decide))
  have hfd := Lib.hid (fun a b W => fieldH_any a b W)
  have hen := enters_of (P := Tryd.prog) Tryd.func40 (by kernel_rfl) rfl
  have hp1 := Lib.hid (fun u k W (h1 : UnB W u (An.firstT 200 An.rs200) [] ⟨#[]⟩) (h2 : Has W k 69 #[.string ⟨#[99, 111, 110, 116, 101, 110, 116, 45, 116, 121, 112, 101]⟩, .string ⟨#[116, 101, 120, 116, 47, 101, 118, 101, 110, 116, 45, 115, 116, 114, 101, 97, 109]⟩, .string ⟨#[99, 97, 99, 104, 101, 45, 99, 111, 110, 116, 114, 111, 108]⟩, .string ⟨#[110, 111, 45, 115, 116, 111, 114, 101]⟩]) => show Calls Tryd.prog 40 #[.pointer (some ⟨u, 0, none⟩), .slice (some ⟨k, 0, none⟩) 2 2] W fun e w' => e = .returned (.tuple #[]) ∧ UnB w' u (An.firstT 200 An.rs200) ([] ++ [(An.ctypeL, An.streamT), (An.cacheL, An.noStoreL)]) ⟨#[]⟩ ∧ Below u W w' from put_any u k 2 _ [] [(An.ctypeL, An.streamT), (An.cacheL, An.noStoreL)] _ _ W h1 h2 (fun j x hx => by have hj : j < 4 := (List.getElem?_eq_some_iff.1 hx).1; rcases (by omega : j = 0 ∨ j = 1 ∨ j = 2 ∨ j = 3) with rfl | rfl | rfl | rfl <;> exact hx) (by simp))
  have hp2 := Lib.hid (fun u k W (h1 : UnB W u (An.firstT 200 An.rs200) ([] ++ [(An.ctypeL, An.streamT), (An.cacheL, An.noStoreL)]) ⟨#[]⟩) (h2 : Has W k 69 #[.string ⟨#[99, 111, 110, 110, 101, 99, 116, 105, 111, 110]⟩, .string ⟨#[99, 108, 111, 115, 101]⟩]) => show Calls Tryd.prog 40 #[.pointer (some ⟨u, 0, none⟩), .slice (some ⟨k, 0, none⟩) 1 1] W fun e w' => e = .returned (.tuple #[]) ∧ UnB w' u An.streamF (An.streamFl false) ⟨#[]⟩ ∧ Below u W w' from by rw [show An.streamF = An.firstT 200 An.rs200 from rfl, show An.streamFl false = [] ++ [(An.ctypeL, An.streamT), (An.cacheL, An.noStoreL)] ++ [(An.connL, An.closeL)] from rfl]; exact put_any u k 1 _ _ [(An.connL, An.closeL)] _ _ W h1 h2 (fun j x hx => by have hj : j < 2 := (List.getElem?_eq_some_iff.1 hx).1; rcases (by omega : j = 0 ∨ j = 1) with rfl | rfl <;> exact hx) (by simp))
  clear hr hT
  generalize An.firstT 200 An.rs200 = f1 at *
  generalize An.streamF = f2 at *
  generalize An.streamFl false = fl at *
  go_enter Tryd.func34, Tryd.ntmps34
  go_upto_region 3 with (first
    | (go_at_call 8; (with_reducible refine Calls.mono hr'.out ?_); rintro e w2 ⟨rfl, hb2⟩; have hb2' := Lib.hid hb2; clear hb2)
    | (go_at_call 39; (with_reducible refine Calls.mono (hbg.out _ hb2'.out) ?_); rintro e w3 ⟨u, rfl, hu, hU, hb3⟩; have hU3 := Lib.hid hU; have hB3 := Lib.hid (below_on hb2'.out hb3); have hu' := Lib.hid (Nat.le_trans hb2'.out.size hu); clear hU hb3 hu))
  go_wp2_with (first
    | (go_at_call 41; (with_reducible refine Calls.mono (hfd.out ⟨#[99, 111, 110, 116, 101, 110, 116, 45, 116, 121, 112, 101]⟩ _ _) ?_); rintro e w4 ⟨rfl, hb4⟩; have hU4 := Lib.hid (hU3.out.below hb4); have hB4 := Lib.hid (below_on hB3.out hb4); clear hb4)
    | (go_at_call 41; (with_reducible refine Calls.mono (hfd.out ⟨#[99, 97, 99, 104, 101, 45, 99, 111, 110, 116, 114, 111, 108]⟩ _ _) ?_); rintro e w5 ⟨rfl, hb5⟩; have hb6 := hb5.alloc hb5.size (.cells #[.string ⟨#[99, 111, 110, 116, 101, 110, 116, 45, 116, 121, 112, 101]⟩, .string ⟨#[116, 101, 120, 116, 47, 101, 118, 101, 110, 116, 45, 115, 116, 114, 101, 97, 109]⟩, .string ⟨#[99, 97, 99, 104, 101, 45, 99, 111, 110, 116, 114, 111, 108]⟩, .string ⟨#[110, 111, 45, 115, 116, 111, 114, 101]⟩] 69); have hz6 := Lib.hid (Has.new w5 69 #[.string ⟨#[99, 111, 110, 116, 101, 110, 116, 45, 116, 121, 112, 101]⟩, .string ⟨#[116, 101, 120, 116, 47, 101, 118, 101, 110, 116, 45, 115, 116, 114, 101, 97, 109]⟩, .string ⟨#[99, 97, 99, 104, 101, 45, 99, 111, 110, 116, 114, 111, 108]⟩, .string ⟨#[110, 111, 45, 115, 116, 111, 114, 101]⟩]); have hU6 := Lib.hid (hU4.out.below hb6); have hB6 := Lib.hid (below_on hB4.out hb6); clear hb5 hb6)
    | (go_at_call 40; (with_reducible refine Calls.mono (hp1.out _ _ _ hU6.out hz6.out) ?_); rintro e w7 ⟨rfl, hU7, hb7⟩; have hU7' := Lib.hid hU7; have hB7 := Lib.hid (hB6.out.trans (hb7.mono hu'.out)); clear hU7 hb7)
    | (go_at_call 41; (with_reducible refine Calls.mono (hfd.out ⟨#[99, 111, 110, 110, 101, 99, 116, 105, 111, 110]⟩ _ _) ?_); rintro e w8 ⟨rfl, hb8⟩; have hb9 := hb8.alloc hb8.size (.cells #[.string ⟨#[99, 111, 110, 110, 101, 99, 116, 105, 111, 110]⟩, .string ⟨#[99, 108, 111, 115, 101]⟩] 69); have hz9 := Lib.hid (Has.new w8 69 #[.string ⟨#[99, 111, 110, 110, 101, 99, 116, 105, 111, 110]⟩, .string ⟨#[99, 108, 111, 115, 101]⟩]); have hU9 := Lib.hid (hU7'.out.below hb9); have hB9 := Lib.hid (below_on hB7.out hb9); clear hb8 hb9)
    | (go_at_call 40; (with_reducible refine Calls.mono (hp2.out _ _ _ hU9.out hz9.out) ?_); rintro e w10 ⟨rfl, hU10, hb10⟩; have hU10' := Lib.hid hU10; have hB10 := Lib.hid (hB9.out.trans (hb10.mono hu'.out)); clear hU10 hb10))
  go_ret
  exact ⟨u, rfl, hu'.out, hU10'.out, hB10.out⟩
theorem streamF_any (c : Bool) (w : World) (hT : TabN w) : Calls Tryd.prog 17 #[.bool c] w fun e w' => ∃ v, e = .returned v ∧ Bz w' w.heap.size v (An.streamB c) ∧ Below w.heap.size w w' := by
  have hs : Calls Tryd.prog 34 #[.bool c] w fun e w' => ∃ u, e = .returned (.pointer (some ⟨u, 0, none⟩)) ∧ w.heap.size ≤ u ∧ UnB w' u An.streamF (An.streamFl c) ⟨#[]⟩ ∧ Below w.heap.size w w' := by
    cases c
    · exact stream_false w hT
    · exact stream_true w hT
  have hfl := An.first_len (j := 0) (by omega)
  have hfl : An.streamF.length ≤ 61 := hfl
  have hb := Lib.hid (fun u W hU => bytes_any u An.streamF (An.streamFl c) [] W hU (by omega) (by cases c <;> decide) (An.stream_small c |> fun h q hq => by have := h q hq; omega) (by omega) (by simp) (An.stream_head c))
  rw [List.append_nil, show An.headT An.streamF (An.streamFl c) = An.streamB c from rfl] at hb
  have hs' := Lib.hid hs
  generalize An.streamB c = P at *
  generalize An.streamF = f at *
  generalize An.streamFl c = fl at *
  clear hs hfl
  go_enter Tryd.func17, Tryd.ntmps17
  go_wp2_with (first
    | (go_at_call 34; (with_reducible refine Calls.mono hs'.out ?_); rintro e w7 ⟨u, rfl, hu, hU, hb7⟩; have hU' := Lib.hid hU; have hb7' := Lib.hid hb7; clear hU hb7)
    | (go_at_call 28; (with_reducible refine Calls.mono (hb.out _ _ hU'.out) ?_); rintro e w8 ⟨v8, rfl, hv8, hb8⟩; obtain ⟨A8, m8, c8, e8, hv8o⟩ := hv8.opened; subst e8; have hv8' := Lib.hid hv8; have hb8' := Lib.hid (below_on hb7'.out hb8); clear hv8 hv8o hb8))
  go_ret
  exact ⟨.slice A8 m8 c8, rfl, hv8'.out.mono hb7'.out.size, hb8'.out⟩
end Go.Proofs.YtabgpnieekcdhaaDoor
