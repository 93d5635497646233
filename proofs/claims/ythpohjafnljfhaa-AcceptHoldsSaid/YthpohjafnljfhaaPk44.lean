import Derived.Test.YthpohjafnljfhaaPk43
namespace Go.Proofs.Ythpohjafnljfhaa
open Go.RowKit
attribute [local go_sem] Oper.semAt_some run_frombits

/-! ## The law of AcceptWeighs -/
theorem word_lt {n : Int} (h : (Lit.int .u64 n).wf = true) : n.toNat < 2 ^ 64 := by
  have e : IntKind.u64.max = 2 ^ 64 - 1 := by decide
  simp [Lit.wf, e] at h
  omega
set_option maxRecDepth 100000 in
set_option maxHeartbeats 2000000 in
theorem weighs_any (hP : AcProg) (n : Int) (w : World) (hT : TabA w) (hn : n.toNat < 2 ^ 64) : Calls Try.prog 3 #[.int .u64 n] w (BoolR true w) := by
  unfold BoolR
  have hT' := Lib.hid hT
  have h1 := Lib.hid (fun W hW => hP.weigh n.toNat W hW hn)
  have h2 := Lib.hid (fun W => refWeigh_any n.toNat W)
  have h3 := Lib.hid (fun W hW => worksA_any hP W hW)
  clear hT hn
  unfold BoolR at h3
  generalize weighF n.toNat = q at *
  go_enter Try.func3, Try.ntmps3
  go_wp2_with (first
    | (go_at_call 6; (with_reducible refine Calls.mono (h1.out _ hT'.out) ?_); rintro e w1 ⟨rfl, hb⟩; have hB1 := Lib.hid hb; have hT1 := Lib.hid (hT'.out.below hb); clear hb)
    | (go_at_call 7; (with_reducible refine Calls.mono (h2.out _) ?_); rintro e w9 ⟨rfl, hw9⟩; obtain rfl := hw9.symm)
    | (go_at_call 8; (with_reducible refine Calls.mono (h3.out _ hT1.out) ?_); rintro e w2 ⟨rfl, hb⟩; have hB2 := Lib.hid (below_on hB1.out hb); clear hb))
  go_ret
  exact ⟨rfl, hB2.out⟩
end Go.Proofs.Ythpohjafnljfhaa
