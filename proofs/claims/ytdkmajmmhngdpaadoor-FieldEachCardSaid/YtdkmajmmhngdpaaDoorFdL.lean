import Derived.Test.YtdkmajmmhngdpaaDoorFdK
namespace Go.Proofs.YtdkmajmmhngdpaaDoor
open Go.RowKit Go.Maps

/-! ## What is asked of a field of a Kind -/
def askOf (ki : Int) (b : Nat) : Value := if ki = 5 then fnV 92 b else if ki = 6 then fnV 93 b else .func (.func 62) #[] #[]
theorem ad_look (ki : Int) (b : Nat) : (Maps.has (AD b) (.int .i64 ki) = true ∧ (AD b).atKey (.int .i64 ki) (.held .nilFunc) = .held (askOf ki b)) ∨ (Maps.has (AD b) (.int .i64 ki) = false ∧ askOf ki b = .func (.func 62) #[] #[]) := by
  unfold askOf
  by_cases h1 : ki = 5
  · subst h1; left; exact ⟨rfl, rfl⟩
  by_cases h2 : ki = 6
  · subst h2; left; exact ⟨rfl, rfl⟩
  right
  rw [if_neg h1, if_neg h2]
  refine ⟨?_, rfl⟩
  simp [Maps.has, AD, Lit.sameKey]
  exact ⟨fun h => h1 h.symm, fun h => h2 h.symm⟩
theorem zeroFn (w : World) : (zeroValue 23).run Tryd.prog w = .ok .nilFunc w := by kernel_rfl
set_option maxRecDepth 100000 in
theorem foundA_any (m b : Nat) (ki : Int) (w : World) (hw : (Lit.int .i64 ki).wf = true) (hown : w.ownsMap Tryd.prog 35 anyElem m 4 (AD b)) :
    Calls Tryd.prog 60 #[.map (some m), .int .i64 ki, .func (.func 62) #[] #[]] w fun e w' => e = .returned (askOf ki b) ∧ w = w' := by
  have hown' := Lib.hid hown
  clear hown
  rcases ad_look ki b with ⟨h1, h2⟩ | ⟨h1, h2⟩
  · go_enter Tryd.func60, Tryd.ntmps60
    go_wp2_with (at_lookup; refine wpList_lookup_own_ok _ rfl _ _ 84 rfl 35 23 keysI Tryd.underlying84 anyElem (zeroFn _) (.held .nilFunc) [] rfl m 4 _ rfl hown'.out _ _ rfl (keyOf_int_mk Tryd.underlying35 hw) ?_; intro v ps hv; obtain rfl : v = askOf ki b := (by rw [h2] at hv; unfold anyElem at hv; injection hv with hv; injection hv with hv _; injection hv); rw [h1])
    go_ret
    exact ⟨rfl, rfl⟩
  · go_enter Tryd.func60, Tryd.ntmps60
    go_wp2_with (at_lookup; refine wpList_lookup_own_ok _ rfl _ _ 84 rfl 35 23 keysI Tryd.underlying84 anyElem (zeroFn _) (.held .nilFunc) [] rfl m 4 _ rfl hown'.out _ _ rfl (keyOf_int_mk Tryd.underlying35 hw) ?_; intro v ps hv; rw [h1])
    go_ret
    rw [h2]
    exact ⟨rfl, rfl⟩
end Go.Proofs.YtdkmajmmhngdpaaDoor
