import Derived.Test.YtdkmajmmhngdpaaDoorFdJ
import Derived.Maps.OwnOps
namespace Go.Proofs.YtdkmajmmhngdpaaDoor
open Go.RowKit Go.Maps

/-! ## The map of what is asked -/
def anyElem : Value → Option (DataW Value × List MemPlace) := fun v => some (.held v, [])
theorem keysI : Keyed Tryd.prog 35 := int_keyed Tryd.underlying35
def fnV (f b : Nat) : Value := .func (.func f) #[] #[.pointer (some ⟨b, 0, none⟩)]
def AD (b : Nat) : DataW Value := .map [(.int .i64 5, .held (fnV 92 b)), (.int .i64 6, .held (fnV 93 b))]
set_option maxRecDepth 100000 in
theorem asks_any (l : List UInt8) (w : World) : Calls Tryd.prog 61 #[.string ⟨l.toArray⟩] w fun e w' => ∃ m, e = .returned (.map (some m)) ∧ w'.ownsMap Tryd.prog 35 anyElem m 4 (AD w.heap.size) ∧ Has w' w.heap.size 9 #[.string ⟨l.toArray⟩] ∧ Below w.heap.size w w' := by
  have hown0 := World.ownsMap_made (w.alloc (.cells #[.string ⟨l.toArray⟩] 9)) Tryd.prog 35 anyElem
  simp only [World.size_alloc] at hown0
  obtain ⟨w2, hr1, o1, g1⟩ := hown0.update keysI Tryd.underlying84 (by decide) (key := .int .i64 5) (val := .func (.func 92) #[] #[.pointer (some ⟨w.heap.size, 0, none⟩)]) (kl := .int .i64 5) (d := .held (fnV 92 w.heap.size)) (ps := []) (keyOf_int_mk Tryd.underlying35 (by decide)) rfl
  obtain ⟨w3, hr2, o2, g2⟩ := o1.update keysI Tryd.underlying84 (by decide) (key := .int .i64 6) (val := .func (.func 93) #[] #[.pointer (some ⟨w.heap.size, 0, none⟩)]) (kl := .int .i64 6) (d := .held (fnV 93 w.heap.size)) (ps := []) (keyOf_int_mk Tryd.underlying35 (by decide)) rfl
  have kB := (Has.new w 9 #[.string ⟨l.toArray⟩]).alloc (.map #[] 0)
  have o3 := Lib.hid (o2.mono (show 0 + 1 + 1 ≤ 4 by decide))
  have hb : Below w.heap.size w ((w.alloc (.cells #[.string ⟨l.toArray⟩] 9)).alloc (.map #[] 0)) := ((Below.refl _ _).alloc (Nat.le_refl _) _).alloc (by simp) _
  have hb3 := Lib.hid ((hb.grown g1 hb.size (fun g e => by cases e; omega)).grown g2 (hb.grown g1 hb.size (fun g e => by cases e; omega)).size (fun g e => by cases e; omega))
  have kB3 : Has w3 w.heap.size 9 #[.string ⟨l.toArray⟩] := by
    have e1 := g1.block w.heap.size (by simp; omega) (fun e => by injection e with e; omega)
    have e2 := g2.block w.heap.size (by have := g1.size; simp at this; omega) (fun e => by injection e with e; omega)
    exact e2.trans (e1.trans kB)
  have kB3' := Lib.hid kB3
  clear hown0 o1 o2 g1 g2 kB hb kB3
  have hmm := @run_makeMap Tryd.prog
  go_enter Tryd.func61, Tryd.ntmps61
  go_wp2
  go_ret
  exact ⟨_, rfl, o3.out, kB3'.out, hb3.out⟩
end Go.Proofs.YtdkmajmmhngdpaaDoor
