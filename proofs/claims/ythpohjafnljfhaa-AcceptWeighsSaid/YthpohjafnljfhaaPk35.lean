import Derived.Test.YthpohjafnljfhaaPk27
import Derived.Test.YthpohjafnljfhaaPk34
import Derived.Laws.Externs
namespace Go.Proofs.Ythpohjafnljfhaa
open Go.RowKit
attribute [local go_sem] Oper.semAt_some

/-! ## Ranges in memory; what the laws take of the program -/
/-- What the program's own tables hold. -/
def TabA (W : World) : Prop := ∃ m, Has W 1 3 #[.int .i64 m]
theorem TabA.below {W W' : World} (h : TabA W) (hb : Below W.heap.size W W') : TabA W' := by
  obtain ⟨m, hm⟩ := h
  exact ⟨m, hm.below hb hm.lt⟩
def rgC (r : Ac.Rg) : List Value := [.string ⟨r.ty.toArray⟩, .string ⟨r.sub.toArray⟩, .int .i64 (r.params : Int), .int .i64 (r.quality : Int)]
/-- Ranges from an address on. -/
def Rgs (W : World) (A : Option Addr) (l : List Ac.Rg) : Prop := 0 < l.length → ∃ b o, A = some ⟨b, o, none⟩ ∧ b < W.heap.size ∧ ∀ (i : Nat) (r : Ac.Rg), l[i]? = some r →
  W.cell? ⟨b, o + i * 4, none⟩ = some (.string ⟨r.ty.toArray⟩) ∧ W.cell? ⟨b, o + i * 4 + 1, none⟩ = some (.string ⟨r.sub.toArray⟩) ∧ W.cell? ⟨b, o + i * 4 + 2, none⟩ = some (.int .i64 (r.params : Int)) ∧ W.cell? ⟨b, o + i * 4 + 3, none⟩ = some (.int .i64 (r.quality : Int))
theorem Rgs.below {w W : World} {A : Option Addr} {l : List Ac.Rg} (h : Rgs w A l) (hb : Below w.heap.size w W) : Rgs W A l := fun h0 => by
  obtain ⟨b, o, rfl, hlt, hc⟩ := h h0
  have k : ∀ p : Addr, p.block = b → W.cell? p = w.cell? p := fun p hp => World.cell?_of_block (hb.block _ (hp ▸ hlt))
  refine ⟨b, o, rfl, Nat.lt_of_lt_of_le hlt hb.size, fun i x hx => ?_⟩
  obtain ⟨h1, h2, h3, h4⟩ := hc i x hx
  exact ⟨(k _ rfl).trans h1, (k _ rfl).trans h2, (k _ rfl).trans h3, (k _ rfl).trans h4⟩
def orA (o : Option (List Ac.Rg)) : List Ac.Rg := o.getD []
def errA {α : Type} (o : Option α) : Int := if o.isSome then 0 else 220
def RgsR (o : Option (List Ac.Rg)) (w : World) (e : Ending) (w' : World) : Prop := (∃ A c, e = .returned (.tuple #[.slice A (orA o).length c, .int .i64 (errA o)]) ∧ Rgs w' A (orA o)) ∧ Below w.heap.size w w'
/-- The program's calls, each by what it answers. -/
structure AcProg : Prop where
  weigh : ∀ (x : Nat) (w : World), TabA w → x < 2 ^ 64 → Calls Try.prog 6 #[.float .f64 x] w fun e w' => e = .returned (.int .i64 (weighF x : Int)) ∧ Below w.heap.size w w'
  parse : ∀ (s : List UInt8) (w : World), TabA w → s.length ≤ 100000 → Calls Try.prog 9 #[.string ⟨s.toArray⟩] w (RgsR (Ac.list s) w)
  quality : ∀ (s k u : List UInt8) (w : World), TabA w → s.length ≤ 100000 → k.length ≤ 1000 → u.length ≤ 1000 → k ≠ [42] → u ≠ [42] →
    Calls Try.prog 13 #[.string ⟨s.toArray⟩, .string ⟨k.toArray⟩, .string ⟨u.toArray⟩] w fun e w' => e = .returned (.tuple #[.int .i64 (((Ac.quality s k u).getD 0 : Nat) : Int), .int .i64 (errA (Ac.quality s k u))]) ∧ Below w.heap.size w w'
  takes : ∀ (s k u : List UInt8) (w : World), TabA w → s.length ≤ 100000 → k.length ≤ 1000 → u.length ≤ 1000 → k ≠ [42] → u ≠ [42] →
    Calls Try.prog 14 #[.string ⟨s.toArray⟩, .string ⟨k.toArray⟩, .string ⟨u.toArray⟩] w fun e w' => e = .returned (.bool (decide (0 < (Ac.quality s k u).getD 0))) ∧ Below w.heap.size w w'

/-! ## Bits, and what math makes of them -/
theorem run_frombits (n : Int) (w : World) : (callFunc 5 #[.int .u64 n]).run Try.prog w = .ok (.value (.float .f64 n.toNat)) w := by
  rw [run_callFunc_extern (fn := Try.f5) (e := Extern.MathFloatBits.float64frombits) Try.func5 (by kernel_rfl) (by kernel_rfl) (by kernel_rfl) (by kernel_rfl)]
  rfl
theorem run_tobits (n : Nat) (w : World) : (callFunc 23 #[.float .f64 n]).run Try.prog w = .ok (.value (.int .u64 (n : Int))) w := by
  rw [run_callFunc_extern (fn := Try.f23) (e := Extern.MathFloatBits.float64bits) Try.func23 (by kernel_rfl) (by kernel_rfl) (by kernel_rfl) (by kernel_rfl)]
  rfl
attribute [local go_sem] run_frombits run_tobits
theorem nan_any (w : World) : Calls Try.prog 15 #[] w fun e w' => e = .returned (.float .f64 9221120237041090561) ∧ w' = w := by
  go_enter Try.func15, Try.ntmps15
  go_wp2
  go_ret
  exact ⟨rfl, rfl⟩
theorem negzero (w : World) : Calls Try.prog 16 #[.float .f64 0, .float .f64 13830554455654793216] w fun e w' => e = .returned (.float .f64 9223372036854775808) ∧ w' = w := by
  go_enter Try.func16, Try.ntmps16
  go_wp2
  go_ret
  exact ⟨rfl, rfl⟩
theorem numA_any (n : Int) (w : World) : Calls Try.prog 10 #[.int .i64 n] w fun e w' => e = .returned (.int .i64 n) ∧ w' = w := by
  go_enter Try.func10, Try.ntmps10
  go_wp2
  go_ret
  exact ⟨rfl, rfl⟩
end Go.Proofs.Ythpohjafnljfhaa
