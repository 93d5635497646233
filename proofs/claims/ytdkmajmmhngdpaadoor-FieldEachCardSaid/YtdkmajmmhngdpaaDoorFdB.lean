import Derived.Test.YtdkmajmmhngdpaaDoorFdA
import Derived.Maps.OwnOps
namespace Go.Proofs.YtdkmajmmhngdpaaDoor
open Go.RowKit Go.Maps

/-! ## The Kind of a name -/
def kindK (s : List UInt8) : Nat := if s = [100, 97, 116, 97] then 3 else if s = [101, 118, 101, 110, 116] then 4 else if s = [105, 100] then 5 else if s = [114, 101, 116, 114, 121] then 6 else 7
theorem kd_look (s : List UInt8) : (Maps.has (KD true true true true) (.string s) = true ∧ (KD true true true true).atKey (.string s) (.lit (.int .i64 0)) = .lit (.int .i64 (kindK s : Int))) ∨ (Maps.has (KD true true true true) (.string s) = false ∧ kindK s = 7) := by
  unfold kindK
  by_cases h1 : s = [100, 97, 116, 97]
  · subst h1; left; exact ⟨rfl, rfl⟩
  by_cases h2 : s = [101, 118, 101, 110, 116]
  · subst h2; left; exact ⟨rfl, rfl⟩
  by_cases h3 : s = [105, 100]
  · subst h3; left; exact ⟨rfl, rfl⟩
  by_cases h4 : s = [114, 101, 116, 114, 121]
  · subst h4; left; exact ⟨rfl, rfl⟩
  right
  rw [if_neg h1, if_neg h2, if_neg h3, if_neg h4]
  refine ⟨?_, rfl⟩
  simp [Maps.has, KD, kOne, namesL, Lit.sameKey]
  exact ⟨fun h => h1 h.symm, fun h => h2 h.symm, fun h => h3 h.symm, fun h => h4 h.symm⟩
theorem zeroK (w : World) : (zeroValue 35).run Tryd.prog w = .ok (.int .i64 0) w := by kernel_rfl
set_option maxRecDepth 100000 in
theorem foundK_any (b : Nat) (s : ByteArray) (w : World) (hs : s.size ≤ maxLen) (hown : w.ownsMap Tryd.prog 9 kElem b 4 (KD true true true true)) :
    Calls Tryd.prog 107 #[.map (some b), .string s, .int .i64 7] w fun e w' => e = .returned (.int .i64 (kindK s.data.toList : Int)) ∧ w = w' := by
  have hown' := Lib.hid hown
  clear hown
  rcases kd_look s.data.toList with ⟨h1, h2⟩ | ⟨h1, h2⟩
  · go_enter Tryd.func107, Tryd.ntmps107
    go_wp2_with (at_lookup; refine wpList_lookup_own_ok_int _ rfl _ _ 129 rfl 9 35 .i64 keysK Tryd.underlying129 Tryd.underlying35 (zeroK _) b 4 _ rfl hown'.out _ _ rfl (WideMaps.keyOf_string_mk Tryd.underlying9 hs) ?_; intro c hat hwc; obtain rfl : c = (kindK s.data.toList : Int) := (by rw [h2] at hat; injection hat with hat; injection hat with _ hat; exact hat.symm); rw [h1])
    go_ret
    exact ⟨rfl, rfl⟩
  · go_enter Tryd.func107, Tryd.ntmps107
    go_wp2_with (at_lookup; refine wpList_lookup_own_ok_int _ rfl _ _ 129 rfl 9 35 .i64 keysK Tryd.underlying129 Tryd.underlying35 (zeroK _) b 4 _ rfl hown'.out _ _ rfl (WideMaps.keyOf_string_mk Tryd.underlying9 hs) ?_; intro c hat hwc; rw [h1])
    go_ret
    rw [h2]
    exact ⟨rfl, rfl⟩
set_option maxRecDepth 100000 in
theorem kindOf_any (s : ByteArray) (w : World) (hs : s.size ≤ maxLen) (hN : NamesT w) : Calls Tryd.prog 88 #[.string s] w fun e w' => e = .returned (.int .i64 (kindK s.data.toList : Int)) ∧ Below w.heap.size w w' := by
  have hk := Lib.hid (kinds_any w hN)
  clear hN
  go_enter Tryd.func88, Tryd.ntmps88
  go_wp2_with (first
    | (go_at_call 108; (with_reducible refine Calls.mono hk.out ?_); rintro e w2 ⟨b, rfl, hown, hb2⟩; have hb2' := Lib.hid hb2; have hfo := Lib.hid (foundK_any b s w2 hs hown); clear hown hb2)
    | (go_at_call 107; (with_reducible refine Calls.mono hfo.out ?_); rintro e w3 ⟨rfl, rfl⟩))
  go_ret
  exact ⟨rfl, hb2'.out⟩
end Go.Proofs.YtdkmajmmhngdpaaDoor
